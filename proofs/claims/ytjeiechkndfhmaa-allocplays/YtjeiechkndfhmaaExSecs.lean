/-
  The contract of the reference's Sectors. Conditions: the slice holds extents that may be, of few sectors.
-/
import Derived.Test.YtjeiechkndfhmaaExInts
import Derived.Test.YtjeiechkndfhmaaExJoin
import Derived.Test.YtjeiechkndfhmaaExCutNum
namespace Go.Proofs.Ytjeiechkndfhmaa
open Go.RowKit Arr Ex

/-- A row of numbers that a call makes. -/
def MadeI (l : List Int) (w : World) (e : Ending) (w' : World) : Prop := ∃ v, e = .returned v ∧ OwnI w' w.heap.size v l ∧ Below w.heap.size w w'
theorem length_secs_take {l : List (Int × Int)} (h : ∀ x, x ∈ l → may x = true) (k : Nat) : ((secs (l.take k)).length : Int) ≤ total l := by
  have h1 : ∀ m : List (Int × Int), (∀ x, x ∈ m → may x = true) → ∀ x, x ∈ m → 0 ≤ x.2 := fun m hm x hx => by have := (may_iff x).1 (hm x hx); omega
  have e1 := total_secs (l.take k) (h1 _ fun x hx => h x (List.mem_of_mem_take hx))
  have e2 : total l = total (l.take k) + total (l.drop k) := by rw [← total_append, List.take_append_drop]
  have := (may_bound (l := l.drop k) (fun x hx => h x (List.mem_of_mem_drop hx))).1
  omega
theorem secs_z64 {l : List (Int × Int)} (h : ∀ x, x ∈ l → may x = true) : ∀ z, z ∈ secs l → Z64 z := fun z hz => by
  obtain ⟨x, hx, q⟩ := (mem_secs z l).1 hz
  have := (may_iff x).1 (h x hx)
  unfold In at q; unfold Z64; omega
set_option maxRecDepth 100000 in
set_option maxHeartbeats 2000000 in
theorem rsectors_any (w : World) (A : Option Addr) (n c : Nat) (l : List (Int × Int)) (hl : l.length = n) (hn : n ≤ 100000) (hm : ∀ x, x ∈ l → may x = true) (ht : total l ≤ 100000) (h : Exts w w.heap.size A l) :
    Calls Try.prog 15 #[.slice A n c] w (MadeI (secs l) w) := by
  have HE := Lib.hid h
  have HL := Lib.hid hl
  have HM := Lib.hid hm
  have HT := Lib.hid ht
  clear h hl hm ht
  go_enter Try.func15, Try.ntmps15
  go_wp2
  go_loopw [3, 4] (fun vo i wr => ∃ k : Nat, k ≤ n ∧ i = .int .i64 k ∧ OwnI wr w.heap.size vo (secs (l.take k)) ∧ Below w.heap.size w wr) (fun _ i _ => n - (intOf i).toNat)
  case atStart => exact ⟨0, Nat.zero_le _, rfl, ownI_nil _ _, Below.refl _ _⟩
  case round =>
    obtain ⟨k, hk, rfl, hown, hB⟩ := hrel
    have HO := Lib.hid hown
    have HB := Lib.hid hB
    by_cases hlt : k < n
    · have hki : k < l.length := by rw [HL.out]; exact hlt
      have hst := secs_take l k hki
      have hlen := length_secs_take HM.out (k + 1)
      have hmx := HM.out _ (List.getElem_mem hki)
      obtain ⟨b, off, x, y, rfl, hb, hxy, _, q0, q1⟩ := HE.out.at hki
      rw [hxy] at hst hmx
      have hmx := (may_iff _).1 hmx
      dsimp only at hst hmx
      obtain ⟨m, rfl⟩ : ∃ m : Nat, y = (m : Int) := ⟨y.toNat, by omega⟩
      rw [Int.toNat_natCast] at hst
      rw [hst, List.length_append, length_run] at hlen
      have hlen : (secs (l.take k)).length + m ≤ 100000 := by have := HT.out; omega
      have HST := Lib.hid hst
      have HLEN := Lib.hid hlen
      have Q0 := Lib.hid q0
      have Q1 := Lib.hid q1
      have t1 : decide ((k : Int) < (n : Int)) = true := by simp; omega
      have wk : IntKind.i64.wrap ((k : Int) + 1) = (k : Int) + 1 := by rw [IntKind.wrap_i64]; omega
      clear hst hlen hxy q0 q1 hown hB
      go_wp2
      go_loopw [3, 5] (fun vo i ws => ∃ (j : Nat) (Ws : World), Ws = ws ∧ j ≤ m ∧ i = .int .i64 j ∧ OwnI ws w.heap.size vo (secs (l.take k) ++ run x j) ∧ Below w.heap.size w ws) (fun _ i _ => m - (intOf i).toNat)
      case atStart => exact ⟨0, _, rfl, Nat.zero_le _, rfl, by rw [run_zero, List.append_nil]; exact HO.out, HB.out⟩
      case round =>
        obtain ⟨j, ws, rfl, hj, rfl, hown, hB⟩ := hrel
        have HO2 := Lib.hid hown
        have HB2 := Lib.hid hB
        have q0 := (HB2.out.cell (p := ⟨b, off + k * 2, none⟩) hb).trans Q0.out
        have q1 := (HB2.out.cell (p := ⟨b, off + k * 2 + 1, none⟩) hb).trans Q1.out
        clear hown hB
        by_cases hjm : j < m
        · have tj : decide ((j : Int) < (m : Int)) = true := by simp; omega
          have wj : IntKind.i64.wrap ((j : Int) + 1) = (j : Int) + 1 := by rw [IntKind.wrap_i64]; omega
          have wx : IntKind.i64.wrap (x + (j : Int)) = x + (j : Int) := wrap_in (by omega) (by omega)
          have HS := Lib.hid (run_succ x j)
          have HX := Lib.hid (ints_lit ws (x + (j : Int)) (by unfold Z64; omega))
          have HOA := Lib.hid (HO2.out.alloc (.cells #[.int .i64 (x + (j : Int))] 3))
          have HBA := Lib.hid (HB2.out.alloc HB2.out.size (.cells #[.int .i64 (x + (j : Int))] 3))
          go_wp2_with (at_builtin; refine append_ints rfl (.tmp 21) (.tmp 29) rfl w.heap.size _ _ rfl HOA.out (some ⟨ws.heap.size, 0, none⟩) 1 1 [x + (j : Int)] rfl (fun h => by cases h) rfl (by simpa using HX.out) (by have := HLEN.out; rw [List.length_append, length_run]; omega) HBA.out.size ?_; intro v' w7 hown' hbel')
          rw [List.append_assoc, ← HS.out] at hown'
          go_roundw
          case rel => exact ⟨j + 1, _, rfl, by omega, by go_num, hown', HBA.out.trans hbel'⟩
          case measure => simp [intOf]; omega
        · obtain rfl : j = m := by omega
          have tj : decide ((j : Int) < (j : Int)) = false := by simp
          have HR := Lib.hid HO2.out
          rw [← HST.out] at HR
          go_wp2
          go_roundw
          case rel => exact ⟨k + 1, by omega, by go_num, HR.out, HB2.out⟩
          case measure => simp [intOf]; omega
    · obtain rfl : k = n := by omega
      have t1 : decide ((k : Int) < (k : Int)) = false := by simp
      have hfull : l.take k = l := List.take_of_length_le (by rw [HL.out]; exact Nat.le_refl _)
      rw [hfull] at HO
      clear hown hB
      go_wp2
      go_ret
      exact ⟨_, rfl, HO.out, HB.out⟩
end Go.Proofs.Ytjeiechkndfhmaa
