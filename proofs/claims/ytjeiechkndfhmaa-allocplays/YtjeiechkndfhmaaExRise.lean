/-
  Contracts of extent's rising and Chain. Condition: the slice holds the extents.
-/
import Derived.Test.YtjeiechkndfhmaaExSort
import Derived.Test.YtjeiechkndfhmaaExApart
namespace Go.Proofs.Ytjeiechkndfhmaa
open Go.Shelf Go.RowKit Arr Ex

theorem len_none (w : World) : Calls Try.prog 57 #[.int .u64 0] w fun e w' => e = .returned (.int .i64 0) ∧ w' = w := by
  have h := Any.bits_Len (SlLaysF0.n15.bits (P := Try.prog) (ρ := sortExt_ren) { sortExt with }) 0 w (by omega) (by omega)
  exact h
set_option maxHeartbeats 2000000 in
theorem ins_none (w : World) (c : Nat) (A : Option Addr) (fv : Value) : Calls Try.prog 59 #[.slice A 0 c, .int .i64 0, .int .i64 0, fv] w fun e w' => e = .returned (.tuple #[]) ∧ w' = w := by
  go_enter Try.func59, Try.ntmps59
  go_wp2
  refine wp_loop_rounds 1 ?_
  rw [rounds_succ]
  go_wp2
  go_end0
  exact ⟨rfl, rfl⟩
set_option maxHeartbeats 4000000 in
theorem pdq_none (w : World) (c : Nat) (A : Option Addr) (fv : Value) : Calls Try.prog 56 #[.slice A 0 c, .int .i64 0, .int .i64 0, .int .i64 0, fv] w fun e w' => e = .returned (.tuple #[]) ∧ w' = w := by
  have hi := fun W => ins_none W c A fv
  go_enter Try.func56, Try.ntmps56
  go_wp2
  refine wp_loop_rounds 1 ?_
  rw [rounds_succ]
  go_wp2_with (go_at_call 59; refine (hi _).mono ?_; rintro e w' ⟨rfl, rfl⟩)
  (try simp only [Exit.inBlock, Exit.then])
  refine bodyPost_ret (results_none rfl _ _ _) rfl ?_
  exact ⟨rfl, rfl⟩
set_option maxHeartbeats 1000000 in
theorem sort_none (w : World) (c : Nat) (A : Option Addr) (fv : Value) : Calls Try.prog 48 #[.slice A 0 c, fv] w fun e w' => e = .returned (.tuple #[]) ∧ w' = w := by
  go_enter Try.func48, Try.ntmps48
  go_wp2_with (first | (go_at_call 57; refine (len_none _).mono ?_; rintro e w' ⟨rfl, rfl⟩) | (go_at_call 56; refine (pdq_none _ c A fv).mono ?_; rintro e w' ⟨rfl, rfl⟩))
  go_end0
  exact ⟨rfl, rfl⟩
/-- A row of the call's own, whatever it is. -/
theorem sort_any (w : World) (base : Nat) (v : Value) (l : List (Int × Int)) (h : Own2 w base v l) (hs : l.length ≤ 1000000) :
    Calls Try.prog 48 #[v, .func (.func 54) #[] #[]] w (Sorted l base v w) := by
  rcases Nat.eq_zero_or_pos l.length with h0 | h0
  · obtain rfl := List.eq_nil_of_length_eq_zero h0
    obtain ⟨A, c, rfl, _⟩ := h.shape
    exact (sort_none w c A _).mono fun e w' ⟨he, hw⟩ => ⟨he, [], List.Perm.refl _, List.Pairwise.nil, hw ▸ h, hw ▸ Below.refl _ _⟩
  · have h' := h
    obtain ⟨g, cap, rfl, hb, hlt⟩ := World.ownsRow.form h' h0
    exact sort_some w base g l.length cap l h rfl hs hlt hb
/-- A row that a call makes. -/
def Made (l : List (Int × Int)) (w : World) (e : Ending) (w' : World) : Prop := ∃ v, e = .returned v ∧ Own2 w' w.heap.size v l ∧ Below w.heap.size w w'
theorem own2_empty (w : World) : Own2 (w.alloc (.cells #[] 34)) w.heap.size (.slice (some ⟨w.heap.size, 0, none⟩) 0 0) [] :=
  ⟨rfl, .inr ⟨w.heap.size, 0, #[], rfl, Nat.le_refl _, heap_alloc_new w _, Nat.le_refl _, by unfold maxLen; omega, rfl, rfl⟩⟩
set_option maxHeartbeats 1000000 in
theorem clone2_any (w : World) (A : Option Addr) (n c : Nat) (l : List (Int × Int)) (hl : l.length = n) (hc : A = none → c = 0) (hn : n ≤ 1000000) (h : Exts w w.heap.size A l) :
    Calls Try.prog 53 #[.slice A n c] w (Made l w) := by
  rcases A with _ | ad
  · obtain rfl : c = 0 := hc rfl
    have h0 : l = [] := by
      rcases Nat.eq_zero_or_pos l.length with h0 | h0
      · exact List.eq_nil_of_length_eq_zero h0
      · obtain ⟨_, _, e, _⟩ := h.cells h0; cases e
    subst h0
    obtain rfl : n = 0 := hl.symm
    have hnil := fun (wx : World) => Lib.run_eql_slice_nil (P := Try.prog) wx 23 34 none 0 0 0 0 Try.underlying23
    clear h
    go_enter Try.func53, Try.ntmps53
    go_wp2
    go_ret
    exact ⟨_, rfl, own2_nil _ _, Below.refl _ _⟩
  · have hnil := fun (wx : World) => Lib.run_eql_slice_nil (P := Try.prog) wx 23 34 (some ad) n c 0 0 Try.underlying23
    have HX := Lib.hid (h.below (below_alloc w (.cells #[] 34)))
    have HL := Lib.hid hl
    clear h hl hc
    go_enter Try.func53, Try.ntmps53
    go_wp2_with (at_builtin; refine append_exts rfl (.tmp 5) (.tmp 6) rfl w.heap.size (.slice (some ⟨w.heap.size, 0, none⟩) 0 0) [] rfl (own2_empty w) (some ad) n c l rfl (fun h => by cases h) HL.out (HX.out.more (by simp)) (by simp; omega) (by simp) ?_; intro v' w1 hown hbel _ _)
    have HF := Lib.hid (show Made l w (.returned v') w1 from ⟨v', rfl, hown, (below_alloc w _).trans hbel⟩)
    clear hown hbel
    go_wp2
    go_ret
    exact HF.out
/-- The same by rising Starts, in a row of the call's own. -/
def RisP (l : List (Int × Int)) (w : World) (e : Ending) (w' : World) : Prop := ∃ v l', e = .returned v ∧ l.Perm l' ∧ l'.Pairwise Rise ∧ Own2 w' w.heap.size v l' ∧ Below w.heap.size w w'
set_option maxHeartbeats 1000000 in
theorem rising_any (w : World) (A : Option Addr) (n c : Nat) (l : List (Int × Int)) (hl : l.length = n) (hc : A = none → c = 0) (hn : n ≤ 1000000) (h : Exts w w.heap.size A l) :
    Calls Try.prog 46 #[.slice A n c] w (RisP l w) := by
  have CC := Lib.hid (clone2_any w A n c l hl hc hn h)
  have HN := Lib.hid (show l.length ≤ 1000000 by omega)
  clear h hl hc hn
  go_enter Try.func46, Try.ntmps46
  go_wp2_with fail
  refine CC.out.mono ?_
  rintro e w1 ⟨v, rfl, ho, hb⟩
  have HB := Lib.hid hb
  have CS := Lib.hid (sort_any w1 w.heap.size v l ho HN.out)
  clear ho hb
  go_wp2_with fail
  refine CS.out.mono ?_
  rintro e w2 ⟨rfl, l', hp, hr, ho, hb⟩
  have HF := Lib.hid (show RisP l w (.returned v) w2 from ⟨v, l', rfl, hp, hr, ho, HB.out.trans hb⟩)
  clear ho hb hp hr
  go_wp2
  go_ret
  exact HF.out
set_option maxHeartbeats 1000000 in
theorem chain_any (w : World) (A : Option Addr) (n c : Nat) (l : List (Int × Int)) (hl : l.length = n) (hc : A = none → c = 0) (hn : n ≤ 1000000) (h : Exts w w.heap.size A l) :
    Calls Try.prog 44 #[.slice A n c] w (Bel (.bool (chain l)) w) := by
  have CR := Lib.hid (rising_any w A n c l hl hc hn h)
  have HI := Lib.hid h.int
  clear h
  go_enter Try.func44, Try.ntmps44
  go_wp2_with fail
  refine CR.out.mono ?_
  rintro e w1 ⟨v, l', rfl, hp, hr, ho, hb⟩
  obtain ⟨A', c', rfl, _, _, _, hx⟩ := ho.shape
  have CA := apart_any w1 A' c' l'.length l' rfl (hx fun x hx => HI.out x (hp.mem_iff.2 hx)) (by rw [← hp.length_eq]; omega) 0 (by omega) (by omega)
  rw [chain_sorted hp hr] at CA
  have CA := Lib.hid CA
  have HB := Lib.hid hb
  clear hp hr ho hb hx CR
  generalize chain l = r at *
  go_wp2_with fail
  refine CA.out.mono ?_
  rintro e w2 ⟨rfl, hb2⟩
  have HB2 := Lib.hid (HB.out.trans (hb2.mono HB.out.size))
  clear hb2
  go_wp2
  go_ret
  exact ⟨rfl, HB2.out⟩
end Go.Proofs.Ytjeiechkndfhmaa
