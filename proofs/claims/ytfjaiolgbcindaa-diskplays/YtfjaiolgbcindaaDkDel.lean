/-
  Contracts of the library's IndexFunc and DeleteFunc over what waits, with the function that asks for a sector. Conditions: the slice holds its writes, in a row of the disk's own.
-/
import Derived.Test.YtfjaiolgbcindaaDkFuse
namespace Go.Proofs.Ytfjaiolgbcindaa
open Go.RowKit Arr Dsk
set_option linter.unusedSimpArgs false
section
variable {w w' : World} {P : Program}
/-- Cells of a row of the call's own are written. -/
def setAll : List Value → Nat → List Value → List Value
  | xs, _, [] => xs
  | xs, o, v :: vs => setAll (xs.set o v) (o + 1) vs
theorem take_setAll : ∀ (vs xs : List Value) (o m : Nat), m ≤ o → (setAll xs o vs).take m = xs.take m
  | [], _, _, _, _ => rfl
  | v :: vs, xs, o, m, h => by
    show (setAll (xs.set o v) (o + 1) vs).take m = _
    rw [take_setAll vs _ _ _ (by omega), List.take_set_of_le h]
theorem owns_sets {base e z g n cap : Nat} : ∀ (vs : List Value) (o : Nat) (w : World) (xs : List Value), w.ownsRow base e z (.slice (some ⟨g, 0, none⟩) n cap) n xs → (w.setCells g o vs).ownsRow base e z (.slice (some ⟨g, 0, none⟩) n cap) n (setAll xs o vs)
  | [], _, _, _, h => h
  | v :: vs, o, _, _, h => owns_sets vs (o + 1) _ _ (h.stored o v).1
theorem owns_less {base e z g n cap m : Nat} {xs : List Value} (h : w.ownsRow base e z (.slice (some ⟨g, 0, none⟩) n cap) n xs) (hm : m ≤ n) : w.ownsRow base e z (.slice (some ⟨g, 0, none⟩) m cap) m (xs.take (m * z)) := by
  obtain ⟨hl, h0 | ⟨g', cap', cur, h1, h2, h3, h4, h5, h6, h7⟩⟩ := h
  · simp at h0
  · simp only [Value.slice.injEq, Option.some.injEq, Addr.mk.injEq, and_true, true_and] at h1
    obtain ⟨rfl, rfl⟩ := h1
    have hmz : m * z ≤ n * z := Nat.mul_le_mul_right _ hm
    refine ⟨by rw [List.length_take, hl]; omega, .inr ⟨g, cap, cur, rfl, h2, h3, by omega, h5, h6, ?_⟩⟩
    rw [← h7, List.take_take, Nat.min_eq_left hmz]
theorem run_clear2 (w : World) (t e : TypeId) (z : Value) (z0 z1 : Value) (ht : P.underlying t = some (.slice e)) (hv : ∀ w, (zeroValue e).run P w = .ok z w) (hz : z.cells = #[z0, z1]) (h0 : z0.oneCell' = true) (h1 : z1.oneCell' = true) (b o n c : Nat) (hn : 0 < n)
    (hc : ∀ j, j < n * 2 → (w.cell? ⟨b, o + j, none⟩).isSome = true) (hf : ∀ j, j < n * 2 → w.frozen? ⟨b, o + j, none⟩ = false) :
    ∃ vs, ∀ ty, (Builtin.clear_ #[t] ty #[.slice (some ⟨b, o, none⟩) n c]).run P w = .ok (.tuple #[]) (w.setCells b o vs) := by
  have hlen : (Builtin.zeroCells z.cells n).toList.length = n * 2 := by rw [hz]; simp [Builtin.zeroCells]
  have hone : ∀ v ∈ (Builtin.zeroCells z.cells n).toList, v.oneCell' = true := fun v hv' => by
    rw [hz] at hv'
    simp only [Builtin.zeroCells, Array.toList_map, List.mem_map] at hv'
    obtain ⟨i, _, rfl⟩ := hv'
    have h2 : i % 2 = 0 ∨ i % 2 = 1 := by omega
    rcases h2 with h2 | h2 <;> simp [h2, h0, h1]
  have hst := run_storeCells_cells (P := P) b o (Builtin.zeroCells z.cells n).toList 0 w (fun j hj => by rw [Nat.add_zero]; exact hc j (by rw [← hlen]; exact hj)) (fun j hj => by rw [Nat.add_zero]; exact hf j (by rw [← hlen]; exact hj)) hone
  simp only [Nat.add_zero] at hst
  obtain ⟨m, rfl⟩ : ∃ m, n = m + 1 := ⟨n - 1, by omega⟩
  exact ⟨(Builtin.zeroCells z.cells (m + 1)).toList, fun ty => by simp [Builtin.clear_, run_underlying ht, hv, hst]⟩
end
theorem elem_w : Try.prog.elem 54 = 66 := by have := Try.underlying54; simp only [Program.elem, this]
theorem under_w : Try.prog.underlying 54 = some (.slice (Try.prog.elem 54)) := by rw [elem_w]; exact Try.underlying54
theorem size2_w : (Try.prog.info? 66).map (·.size) = some 2 := by kernel_rfl
theorem sizeof_w (W : World) : (sizeOf (Try.prog.elem 54)).run Try.prog W = .ok 2 W := by
  rw [elem_w]
  have h := size2_w
  cases hq : Try.prog.info? 66 with
  | none => simp [hq] at h
  | some i => simp [hq] at h; simp [sizeOf, typeInfo, hq, h]
theorem run_from_w (b o n c l : Nat) (h2 : l ≤ n) (hc : l < c) (W : World) :
    (Instr.slice 54 (.slice (some ⟨b, o, none⟩) n c) (some (.int .i64 (l : Int))) none none).run Try.prog W = .ok (.slice (some ⟨b, o + l * 2, none⟩) (n - l) (c - l)) W := by
  rw [run_slice_l W 54 _ n c under_w .i64 _ (by omega) (by omega), sizeof_w]
  simp only [Result.andThen_ok, sliced, Int.toNat_natCast]
  rw [if_neg (by omega), Option.map_some, add_nat]
theorem run_to_w (b o n c l : Nat) (h2 : l ≤ c) (W : World) :
    (Instr.slice 54 (.slice (some ⟨b, o, none⟩) n c) none (some (.int .i64 (l : Int))) none).run Try.prog W = .ok (.slice (some ⟨b, o, none⟩) l c) W := by
  rw [run_slice_h W 54 _ n c under_w .i64 _ (by omega) (by omega), sizeof_w]
  simp only [Result.andThen_ok, sliced, Int.toNat_natCast, Nat.zero_mul]
  by_cases h0 : c = 0
  · subst h0; simp
  · rw [if_neg h0, Option.map_some, add_nat]; simp
/-- The function that is handed over: does the write wait for the sector? -/
theorem clo_any (w : World) (sb : Nat) (i : Int) (x : Int) (A : Option Addr) (n c : Nat) (hs : w.cell? ⟨sb, 0, none⟩ = some (.int .i64 i)) :
    Calls Try.prog 39 #[.agg #[.int .i64 x, .slice A n c], .pointer (some ⟨sb, 0, none⟩)] w fun en w' => en = .returned (.bool (x == i)) ∧ w' = w.alloc (.cells #[.int .i64 x, .slice A n c] 66) := by
  have hs1 := ((below_alloc w (.cells #[.int .i64 x, .slice A n c] 66)).cell (p := ⟨sb, 0, none⟩) (lt_of_cell hs)).trans hs
  go_enter Try.func39, Try.ntmps39
  go_wp2
  go_ret
  exact ⟨rfl, rfl⟩
/-- What IndexFunc leaves. -/
def IndexP (ws : List Wt) (i : Nat) (w : World) (en : Ending) (w' : World) : Prop :=
  ((en = .returned (.int .i64 (-1)) ∧ ∀ x, x ∈ ws → x.i ≠ i) ∨ ∃ k, ∃ h : k < ws.length, en = .returned (.int .i64 (k : Int)) ∧ ws[k].i = i ∧ ∀ j (hj : j < ws.length), j < k → ws[j].i ≠ i) ∧ Below w.heap.size w w'
set_option maxHeartbeats 1000000 in
theorem index_any (w : World) (A : Option Addr) (N c sb i : Nat) (ws : List Wt) (hN : ws.length = N) (hm : N ≤ 4294967296) (hW : Wts w.heap.size w A ws) (hs : w.cell? ⟨sb, 0, none⟩ = some (.int .i64 (i : Int))) :
    Calls Try.prog 42 #[.slice A N c, .func (.func 39) #[] #[.pointer (some ⟨sb, 0, none⟩)]] w (IndexP ws i w) := by
  have HN := Lib.hid hN
  have HW := Lib.hid hW
  have hsl := lt_of_cell hs
  clear hN hW
  go_enter Try.func42, Try.ntmps42
  go_wp2
  go_loopw [8] (fun iv wr => ∃ k : Nat, k ≤ N ∧ iv = .int .i64 k ∧ (∀ j (hj : j < ws.length), j < k → ws[j].i ≠ i) ∧ Below w.heap.size w wr) (fun iv _ => N - (intOf iv).toNat)
  case atStart => exact ⟨0, Nat.zero_le _, rfl, fun j _ hj => absurd hj (Nat.not_lt_zero _), Below.refl _ _⟩
  case round =>
    obtain ⟨k, hk, rfl, hall, hB⟩ := hrel
    have HALL := Lib.hid hall
    have HB := Lib.hid hB
    by_cases hlt : k < N
    · have hki : k < ws.length := by rw [HN.out]; exact hlt
      obtain ⟨b, o, rfl, hb, hc⟩ := (HW.out.below hB) (by omega)
      obtain ⟨q0, q1⟩ := hc k hki
      have t1 : decide ((k : Int) < (N : Int)) = true := by simp; omega
      have wk : IntKind.i64.wrap ((k : Int) + 1) = (k : Int) + 1 := by rw [IntKind.wrap_i64]; omega
      have hsw : wr.cell? ⟨sb, 0, none⟩ = some (.int .i64 (i : Int)) := (hB.cell (p := ⟨sb, 0, none⟩) hsl).trans hs
      have CL := Lib.hid (clo_any wr sb (i : Int) (ws[k].i : Int) ws[k].A ws[k].bs.length ws[k].c hsw)
      have HYES := Lib.hid (show ws[k].i = i → IndexP ws i w (.returned (.int .i64 (k : Int))) (wr.alloc (.cells #[.int .i64 (ws[k].i : Int), .slice ws[k].A ws[k].bs.length ws[k].c] 66)) from fun h0 => ⟨.inr ⟨k, hki, rfl, h0, HALL.out⟩, HB.out.alloc HB.out.size _⟩)
      have HNO := Lib.hid (show ws[k].i ≠ i → ∀ j (hj : j < ws.length), j < k + 1 → ws[j].i ≠ i from fun h0 j hj hjk => by
        by_cases e : j = k
        · subst e; exact h0
        · exact HALL.out j hj (by omega))
      clear hc hB hall
      generalize ws[k] = x at *
      obtain ⟨x3, x4, x0, ys⟩ := x
      simp only at q0 q1 CL HYES HNO
      generalize ys.length = L at *
      by_cases hx : x0 = i
      · have t2 : ((x0 : Int) == (i : Int)) = true := by simp [hx]
        rw [t2] at CL
        have HF := Lib.hid (HYES.out hx)
        clear hx
        go_wp2_with fail
        refine CL.out.mono ?_
        rintro en w' ⟨rfl, rfl⟩
        go_wp2
        go_ret
        exact HF.out
      · have t2 : ((x0 : Int) == (i : Int)) = false := by simp; omega
        rw [t2] at CL
        have HF := Lib.hid (HNO.out hx)
        clear hx
        go_wp2_with fail
        refine CL.out.mono ?_
        rintro en w' ⟨rfl, rfl⟩
        go_wp2
        go_roundw
        case rel => exact ⟨k + 1, by omega, by go_num, HF.out, HB.out.alloc HB.out.size _⟩
        case measure => simp [intOf]; omega
    · obtain rfl : k = N := by omega
      have t1 : decide ((k : Int) < (k : Int)) = false := by simp
      have HF := Lib.hid (show ∀ x, x ∈ ws → x.i ≠ i from fun x hx => by
        obtain ⟨j, hj, rfl⟩ := List.getElem_of_mem hx
        exact HALL.out j hj (by have := HN.out; omega))
      clear hall hB
      go_wp2
      go_ret
      exact ⟨.inl ⟨rfl, HF.out⟩, HB.out⟩
end Go.Proofs.Ytfjaiolgbcindaa
