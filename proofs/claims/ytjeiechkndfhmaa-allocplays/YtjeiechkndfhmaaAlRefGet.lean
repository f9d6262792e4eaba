/-
  Contracts of the reference's pool: Is and List. Conditions: it begins at a sector from 0 to 1048576, and has at most 1000.
-/
import Derived.Test.YtjeiechkndfhmaaAlRef
namespace Go.Proofs.Ytjeiechkndfhmaa
open Go.RowKit Arr Ex

set_option maxRecDepth 100000 in
set_option maxHeartbeats 8000000 in
theorem ris_any {w : World} {g r : Nat} {s : Int} {fs : List Bool} (h : Rpl w g r s fs) (hs : 0 ≤ s ∧ s ≤ 1048576) (u : Int) (hu : -9223372036854775808 ≤ u ∧ u ≤ 9223372036854775807) (b : Bool) :
    Calls Try.prog 25 #[.pointer (some ⟨g, 0, none⟩), .int .i64 u, .bool b] w fun e w' => e = .returned (.bool (isB s fs u b)) ∧ ∃ q, w' = w.drewN q := by
  have mixed : Try.prog.follows .mixedOrders = true := by kernel_rfl
  have c0 := h.c0
  obtain ⟨c, c1, _⟩ := h.c1
  have hcell := h.cell
  clear h
  by_cases h1 : s ≤ u
  · have t1 : decide (u ≥ s) = true := by simpa using h1
    have wk : IntKind.i64.wrap (u - s) = u - s := by rw [IntKind.wrap_i64]; omega
    by_cases h2 : u - s < (fs.length : Int)
    · have t2 : decide (u - s < (fs.length : Int)) = true := by simpa using h2
      have hi : (u - s).toNat < fs.length := by omega
      have q := hcell (u - s).toNat hi
      have e : isB s fs u b = (fs[(u - s).toNat] == b) := by
        unfold isB
        rw [List.getElem?_eq_getElem hi]
        simp [h1]
      rw [e]
      clear e hcell
      generalize fs[(u - s).toNat] = x at *
      generalize fs.length = n at *
      have h0 : 0 ≤ u - s := by omega
      go_enter Try.func25, Try.ntmps25
      go_wp2
      go_quiet (fail)
      go_wp2
      go_ret
      exact ⟨rfl, _, rfl⟩
    · have t2 : decide (u - s < (fs.length : Int)) = false := by simpa using h2
      have e : isB s fs u b = false := by unfold isB; rw [List.getElem?_eq_none (by omega)]; simp
      rw [e]
      clear hcell e
      generalize fs.length = n at *
      go_enter Try.func25, Try.ntmps25
      go_wp2
      go_quiet (fail)
      go_wp2
      go_ret
      exact ⟨rfl, _, rfl⟩
  · have t1 : decide (u ≥ s) = false := by simpa using h1
    have e : isB s fs u b = false := by unfold isB; simp; omega
    rw [e]
    clear hcell e
    generalize fs.length = n at *
    go_enter Try.func25, Try.ntmps25
    go_wp2
    go_quiet (fail)
    go_wp2
    go_ret
    exact ⟨rfl, _, rfl⟩
theorem frs_take (s : Int) (fs : List Bool) (k : Nat) (hk : k < fs.length) : frs s (fs.take (k + 1)) = frs s (fs.take k) ++ (if fs[k] then [s + (k : Int)] else []) := by
  rw [List.take_add_one, List.getElem?_eq_getElem hk]
  show frs s (fs.take k ++ [fs[k]]) = _
  rw [frs_snoc, List.length_take, Nat.min_eq_left (by omega)]
set_option maxRecDepth 100000 in
set_option maxHeartbeats 4000000 in
theorem rlist_any {w : World} {g r : Nat} {s : Int} {fs : List Bool} (h : Rpl w g r s fs) (hs : 0 ≤ s ∧ s ≤ 1048576) (hf : fs.length ≤ 1000) :
    Calls Try.prog 19 #[.pointer (some ⟨g, 0, none⟩)] w (MadeI (frs s fs) w) := by
  have HR := Lib.hid h
  clear h
  generalize hn : fs.length = n at *
  have HN := Lib.hid hn
  clear hn
  go_enter Try.func19, Try.ntmps19
  go_wp2
  go_loopw [3, 4] (fun v i wr => ∃ (k : Nat), k ≤ n ∧ i = .int .i64 (k : Int) ∧ OwnI wr w.heap.size v (frs s (fs.take k)) ∧ Below w.heap.size w wr) (fun _ i _ => n - (intOf i).toNat)
  case atStart => exact ⟨0, Nat.zero_le _, rfl, by rw [List.take_zero]; exact ⟨rfl, .inl ⟨rfl, rfl⟩⟩, Below.refl _ _⟩
  case round =>
    obtain ⟨k, hk, rfl, hown, hB⟩ := hrel
    have hR := HR.out.below hB
    have c0 := hR.c0
    obtain ⟨c, c1, _⟩ := hR.c1
    rw [HN.out] at c1
    have HB := Lib.hid hB
    have HO := Lib.hid hown
    by_cases hlt : k < n
    · have hkf : k < fs.length := by rw [HN.out]; exact hlt
      have t1 : decide ((k : Int) < (n : Int)) = true := by simp; omega
      have wk : IntKind.i64.wrap ((k : Int) + 1) = (k : Int) + 1 := by rw [IntKind.wrap_i64]; omega
      have ws : IntKind.i64.wrap (s + (k : Int)) = s + (k : Int) := by rw [IntKind.wrap_i64]; omega
      have q := hR.cell k hkf
      have HT := Lib.hid (frs_take s fs k hkf)
      have HLEN := Lib.hid (show (frs s (fs.take k)).length ≤ 1000 from by have := length_frs (fs.take k) s; rw [List.length_take] at this; omega)
      clear hR hown
      generalize fs[k] = x at *
      cases x with
      | false =>
        clear hB
        go_wp2
        go_roundw
        case rel => exact ⟨k + 1, by omega, by simp, by rw [HT.out]; simpa using HO.out, HB.out⟩
        case measure => simp [intOf]; omega
      | true =>
        have hbw := (hB.alloc hB.size (.cells #[.int .i64 (s + (k : Int))] 3))
        have hsz := hB.size
        clear hB
        go_wp2_with (at_builtin; go_loud (refine append_ints rfl (.tmp 21) (.tmp 28) rfl w.heap.size _ (frs s (fs.take k)) rfl (World.ownsRow.alloc HO.out _) (some ⟨wr.heap.size, 0, none⟩) 1 1 [s + (k : Int)] rfl (fun h => by cases h) rfl ((ints_lit wr (s + (k : Int)) (by unfold Z64; omega)).more (by simp)) (by have := HLEN.out; omega) (by simp; omega) ?_; intro v' w1 ho hb))
        go_roundw
        case rel => exact ⟨k + 1, by omega, by simp, by rw [HT.out]; exact ho, hbw.trans hb⟩
        case measure => simp [intOf]; omega
    · obtain rfl : k = n := by omega
      have t1 : decide ((k : Int) < (k : Int)) = false := by simp
      have hO := HO.out
      rw [← HN.out, List.take_length] at hO
      have HF := Lib.hid (And.intro hO hB)
      clear hO hR hown hB
      go_wp2
      go_ret
      exact ⟨_, rfl, HF.out.1, HF.out.2⟩
end Go.Proofs.Ytjeiechkndfhmaa
