/-
  Contract of the reference's Pad: what stands behind n bytes. Conditions: n is at most 2^40 (for Pad(n) itself the statement asks no more).
-/
import Derived.Test.YtmookhbijmibiaaDoorShaAwake
import Derived.Test.YtmookhbijmibiaaDoorRefWord
import Derived.Test.YtmookhbijmibiaaDoorOwnBys
namespace Go.Proofs.YtmookhbijmibiaaDoor
open Go.RowKit Arr Sh

/-- A row that was just built. -/
theorem owns_one (w : World) (c : Nat) : (w.alloc (.cells #[.int .u8 (c : Int)] 5)).ownsRow w.heap.size 5 1 (.slice (some ⟨w.heap.size, 0, none⟩) 1 1) 1 (vals .u8 [c]) := by
  refine ⟨rfl, .inr ⟨w.heap.size, 1, #[.int .u8 (c : Int)], rfl, Nat.le_refl _, heap_alloc_last w _, Nat.le_refl _, by unfold maxLen; omega, rfl, rfl⟩⟩
theorem size_step (n k : Nat) (h1 : 1 ≤ k) (h2 : k ≤ size n - 8) : (n + k) % 64 = 56 ↔ k = size n - 8 := by
  unfold size at *
  split at h2 <;> split <;> omega
/-- The first k of what stands behind. -/
def headK (k : Nat) : List Nat := 128 :: zs (k - 1)
theorem headK_succ (k : Nat) (h : 1 ≤ k) : headK (k + 1) = headK k ++ [0] := by
  obtain ⟨d, rfl⟩ : ∃ d, k = d + 1 := ⟨k - 1, by omega⟩
  simp [headK, zs, ← List.replicate_append_replicate (n := d) (m := 1)]
theorem headK_pad (n : Nat) : headK (size n - 8) ++ bytesOf (8 * n) 8 = pad n := by
  have := size_ge n
  rw [headK, pad, show size n - 8 - 1 = size n - 9 by omega]; rfl

set_option maxHeartbeats 1000000 in
theorem rpad_any (n : Nat) (hn : n ≤ 1099511627776) (w : World) : Calls Tryd.prog 23 #[.int .i64 (n : Int)] w (MadeBytes (pad n) w) := by
  have hsg := size_ge n
  have O1 := Lib.hid (owns_one w 128)
  have B1 := Lib.hid (below_alloc w (.cells #[.int .u8 128] 5))
  have HPD := Lib.hid (headK_pad n)
  have SS := Lib.hid (fun k => size_step n k)
  have C1 := Lib.hid (fun w' => rput64_any (8 * n) (by omega) w')
  have LP := Lib.hid (length_pad n)
  have PB := Lib.hid (pad_byte n)
  obtain ⟨s, es⟩ : ∃ s, s = size n - 8 := ⟨_, rfl⟩
  rw [← es] at HPD
  have hs : 1 ≤ s ∧ s ≤ 64 := by omega
  have SS2 : Go.RowKit.Hid (∀ k, 1 ≤ k → k ≤ s → ((n + k) % 64 = 56 ↔ k = s)) := Lib.hid (fun k h1 h2 => by rw [es] at h2 ⊢; exact SS.out k h1 h2)
  have ES := Lib.hid es
  clear SS es hsg
  go_enter Tryd.func23, Tryd.ntmps23
  go_wp2_with fail
  go_loopw [3] (fun v wr => ∃ k : Nat, 1 ≤ k ∧ k ≤ s ∧ v ≠ .slice none 0 0 ∧ lenV v = k ∧ wr.ownsRow w.heap.size 5 1 v k (vals .u8 (headK k)) ∧ Below w.heap.size w wr) (fun v _ => s - lenV v)
  case atStart => exact ⟨1, by omega, by omega, by simp, rfl, O1.out, B1.out⟩
  case round =>
    clear O1 B1
    obtain ⟨k, hk1, hk2, hv, hlv, hown, hbel⟩ := hrel
    obtain ⟨g, c, rfl⟩ : ∃ g c, u3 = .slice (some ⟨g, 0, none⟩) k c := by
      rcases hown.2 with ⟨e, _⟩ | ⟨g, c, cur, e, _⟩
      · exact absurd e hv
      · exact ⟨g, c, e⟩
    have HO := Lib.hid hown
    have HB := Lib.hid hbel
    have hsz := hbel.size
    clear hown hbel hv hlv
    obtain ⟨r, er⟩ : ∃ r, r = (n + k) % 64 := ⟨_, rfl⟩
    have e1 : ((n : Int) + (k : Int)) % 64 = (r : Int) := by omega
    have hss := SS2.out k hk1 hk2
    rw [← er] at hss
    by_cases hlt : k < s
    · have t1 : ((r : Int) == 56) = false := by simp; omega
      have t2 : ((r : Int) != 56) = true := by simp [bne]; omega
      have HK := Lib.hid (headK_succ k hk1)
      clear er hss
      go_wp2_with (at_builtin; refine append_one rfl (.tmp 11) (.tmp 12) 22 rfl w.heap.size 5 (.int .u8 0) 1 Tryd.underlying22 info_u8 rfl _ k _ (.int .u8 ((0 : Nat) : Int)) rfl HO.out rfl rfl (by omega) (by omega) hsz ?_; intro v' w1 hown1 hbel1)
      rw [← vals_snoc, ← HK.out] at hown1
      obtain ⟨g', c', rfl, _⟩ := hown1.form (by omega)
      go_roundw
      case rel => exact ⟨k + 1, by omega, by omega, by simp, rfl, hown1, HB.out.trans hbel1⟩
      case measure => simp [lenV]; omega
    · obtain rfl : k = s := by omega
      have t1 : ((r : Int) == 56) = true := by simp; omega
      have t2 : ((r : Int) != 56) = false := by simp [bne]; omega
      have m1 : (n : Int) * 8 = ((8 * n : Nat) : Int) := by omega
      have m2 : IntKind.u64.wrap ((8 * n : Nat) : Int) = ((8 * n : Nat) : Int) := by rw [IntKind.wrap_u64]; omega
      have m3 : IntKind.u64.wrap (n : Int) = (n : Int) := by rw [IntKind.wrap_u64]; omega
      have H8 := Lib.hid (length_bytesOf (8 * n) 8)
      clear er hss
      generalize 8 * n = n8 at *
      go_wp2_with fail
      refine (C1.out _).mono ?_
      rintro e w2 ⟨A2, c2, rfl, hb2, hB2⟩
      have HB2 := Lib.hid hb2
      have HO2 := Lib.hid (show w2.ownsRow w.heap.size 5 1 (.slice (some ⟨g, 0, none⟩) k c) k (vals .u8 (headK k)) from by
        obtain ⟨hl, hor⟩ := HO.out
        refine ⟨hl, ?_⟩
        rcases hor with h | ⟨g', cap, cur, e, h1, h2, h3⟩
        · exact .inl h
        · refine .inr ⟨g', cap, cur, e, h1, ?_, h3⟩
          rw [hB2.block g' (Array.getElem?_eq_some_iff.1 h2).1]; exact h2)
      have HNN : Go.RowKit.Hid (A2 = none → c2 = 0) := Lib.hid (fun h => by
        obtain ⟨b, off, e, _⟩ := HB2.out.2 (by rw [H8.out]; omega)
        rw [h] at e; cases e)
      have HBB := Lib.hid (HB.out.trans (hB2.mono hsz))
      have hsz2 := HBB.out.size
      rw [H8.out]
      clear hb2 hB2
      go_wp2_with (at_builtin; refine append_bys rfl (.tmp 14) (.tmp 18) 22 rfl w.heap.size 5 Tryd.underlying22 info_u8 (.slice (some ⟨g, 0, none⟩) k c) k (headK k) rfl HO2.out A2 8 c2 (bytesOf n8 8) rfl HNN.out H8.out w2.heap.size HB2.out (by omega) hsz2 (by simp) ?_; intro v' w3 hown3 hv3 hbel3)
      rw [HPD.out] at hown3
      obtain ⟨A3, c3, rfl, hl3, hb3⟩ := bys_of_owns hown3 PB.out
      have HB3 := Lib.hid hb3
      have HW3 := Lib.hid (HBB.out.trans hbel3)
      have HL3 := Lib.hid hl3
      clear hown3 hv3 hbel3 hb3 hl3
      go_wp2
      go_ret
      exact ⟨A3, c3, by rw [HL3.out]; rfl, HB3.out, HW3.out⟩
end Go.Proofs.YtmookhbijmibiaaDoor
