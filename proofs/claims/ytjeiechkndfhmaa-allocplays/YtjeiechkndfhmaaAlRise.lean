/-
  The pool's rising: the library's SortedFunc over slices.Values: the same extents by rising Starts, in a new row. Condition: the slice holds the extents.
-/
import Derived.Test.YtjeiechkndfhmaaExJoin
import Derived.Test.YtjeiechkndfhmaaAlSeq
namespace Go.Proofs.Ytjeiechkndfhmaa
open Go.Shelf Go.RowKit Go.Lib Go.Sort Arr Ex

set_option maxHeartbeats 1000000 in
theorem closureA (x y : Int × Int) (W : World) : Calls Try.prog 39 #[.agg #[.int .i64 x.1, .int .i64 x.2], .agg #[.int .i64 y.1, .int .i64 y.2]] W fun e w' => e = .returned (.int .i64 (cfE x y)) ∧ ∃ q os', w' = grow (W.drewN q) os' := by
  have hcon := fun W' => AnyG.cmp_Compare_int cmpInt x.1 y.1 W'
  change ∀ W', Calls Try.prog 40 _ _ _ at hcon
  unfold cfE
  generalize Lib.compareInt x.1 y.1 = r at hcon ⊢
  go_enter Try.func39, Try.ntmps39
  go_wp2_with (go_at_call 40; refine (hcon _).mono ?_; rintro e w' ⟨rfl, rfl⟩)
  go_ret
  exact ⟨rfl, 0, _, by rw [alloc_eq_grow, alloc_eq_grow, grow_grow]; rfl⟩
theorem cmpLaysA (blk off size : Nat) (w : World) : CmpLays Try.prog 39 #[] enc2 2 cfE blk off size w :=
  fun _ _ _ _ x y => closureA x y _
theorem sortA_some (w : World) (base g n c : Nat) (l : List (Int × Int)) (h : Own2 w base (.slice (some ⟨g, 0, none⟩) n c) l) (hn : n = l.length) (hs : n ≤ 1000000) (hg : g < w.heap.size) (hbase : base ≤ g) :
    Calls Try.prog 48 #[.slice (some ⟨g, 0, none⟩) n c, .func (.func 39) #[] #[]] w (Sorted l base (.slice (some ⟨g, 0, none⟩) n c) w) := by
  have eg : ∀ args w, (callFunc 39 args).run Try.prog w = .ok (.enter 39 args) w := enters_of Try.func39 (by kernel_rfl) rfl
  have hcon := AnyQ.slices_SortFunc sortExt 2 Try.isAgg34 Try.sizeOf34 enc2 (fun _ => rfl) (fun x v hv => by simp [enc2] at hv; rcases hv with rfl | rfl <;> rfl) cfE swoE 39 #[] g 0 c l.toArray w eg (cmpLaysA g 0 l.toArray.size w) (h.holdsK hn) hg (by simp; omega)
  have e : l.toArray.size = n := by simp [hn]
  rw [e] at hcon
  change Calls Try.prog 48 _ _ _ at hcon
  refine hcon.mono ?_
  rintro en w' ⟨rfl, d', m, os, hp, hso, rfl⟩
  obtain ⟨hp1, _, hp2⟩ := hp
  rw [e] at hp1
  have ed : d' = d'.toList.toArray := by simp
  have hlen : d'.toList.length = l.length := by simp; omega
  obtain ⟨o1, o2⟩ := h.sorted hn hg hbase m os d'.toList hlen
  rw [← ed] at o1 o2
  refine ⟨rfl, d'.toList, ?_, ?_, o1, o2⟩
  · have h1 : d'.extract 0 n = d' := by rw [← hp1]; simp
    have h2 : l.toArray.extract 0 n = l.toArray := by rw [← e]; simp
    rw [h1, h2] at hp2
    exact hp2.symm
  · refine List.pairwise_iff_getElem.2 fun i j hi hj hij => ?_
    have hi' : i < d'.size := by simpa using hi
    have hj' : j < d'.size := by simpa using hj
    have := hso i j (Nat.zero_le _) hij (by omega)
    rw [ltE, getElem!_pos d' i hi', getElem!_pos d' j hj'] at this
    simp only [decide_eq_false_iff_not] at this
    unfold Ex.Rise
    simp only [Array.getElem_toList]
    omega
/-- A row of the call's own, whatever it is. -/
theorem sortA_any (w : World) (base : Nat) (v : Value) (l : List (Int × Int)) (h : Own2 w base v l) (hs : l.length ≤ 1000000) :
    Calls Try.prog 48 #[v, .func (.func 39) #[] #[]] w (Sorted l base v w) := by
  rcases Nat.eq_zero_or_pos l.length with h0 | h0
  · obtain rfl := List.eq_nil_of_length_eq_zero h0
    obtain ⟨A, c, rfl, _⟩ := h.shape
    exact (sort_none w c A _).mono fun e w' ⟨he, hw⟩ => ⟨he, [], List.Perm.refl _, List.Pairwise.nil, hw ▸ h, hw ▸ Below.refl _ _⟩
  · have h' := h
    obtain ⟨g, cap, rfl, hb, hlt⟩ := World.ownsRow.form h' h0
    exact sortA_some w base g l.length cap l h rfl hs hlt hb
set_option maxHeartbeats 1000000 in
theorem collect_any (w : World) (Bv len cap : Nat) (A : Option Addr) (zs : List (Int × Int)) (hlen : zs.length = len) (hreach : len ≤ 1000000) (hBv : Bv < w.heap.size) (hc : w.cell? ⟨Bv, 0, none⟩ = some (.slice A len cap)) (hI : Exts w w.heap.size A zs) :
    Calls Try.prog 47 #[.func (.func 49) #[] #[.pointer (some ⟨Bv, 0, none⟩)]] w (MadeE zs w) := by
  have C := Lib.hid (appendSeq_any w Bv len cap A zs hlen hreach hBv hc hI)
  clear hI hc hlen
  go_enter Try.func47, Try.ntmps47
  go_wp2_with fail
  refine C.out.mono ?_
  rintro e w1 ⟨v, rfl, ho, hb⟩
  have HF := Lib.hid (show MadeE zs w (.returned v) w1 from ⟨v, rfl, ho, hb⟩)
  clear ho hb
  go_wp2
  go_ret
  exact HF.out
set_option maxHeartbeats 1000000 in
theorem sortedFunc_any (w : World) (Bv len cap : Nat) (A : Option Addr) (zs : List (Int × Int)) (hlen : zs.length = len) (hreach : len ≤ 1000000) (hBv : Bv < w.heap.size) (hc : w.cell? ⟨Bv, 0, none⟩ = some (.slice A len cap)) (hI : Exts w w.heap.size A zs) :
    Calls Try.prog 37 #[.func (.func 49) #[] #[.pointer (some ⟨Bv, 0, none⟩)], .func (.func 39) #[] #[]] w (RisP zs w) := by
  have C := Lib.hid (collect_any w Bv len cap A zs hlen hreach hBv hc hI)
  have HN := Lib.hid (show zs.length ≤ 1000000 by omega)
  clear hI hc hlen
  go_enter Try.func37, Try.ntmps37
  go_wp2_with fail
  refine C.out.mono ?_
  rintro e w1 ⟨v, rfl, ho, hb⟩
  have HB := Lib.hid hb
  have CS := Lib.hid (sortA_any w1 w.heap.size v zs ho HN.out)
  clear ho hb
  go_wp2_with fail
  refine CS.out.mono ?_
  rintro e w2 ⟨rfl, l', hp, hr, ho, hb⟩
  have HF := Lib.hid (show RisP zs w (.returned v) w2 from ⟨v, l', rfl, hp, hr, ho, HB.out.trans hb⟩)
  clear ho hb hp hr
  go_wp2
  go_ret
  exact HF.out
set_option maxHeartbeats 1000000 in
theorem arising_any (w : World) (A : Option Addr) (n c : Nat) (l : List (Int × Int)) (hl : l.length = n) (hn : n ≤ 1000000) (h : Exts w w.heap.size A l) :
    Calls Try.prog 31 #[.slice A n c] w (RisP l w) := by
  have hal := below_alloc w (.cells #[.slice A n c] 23)
  have C := Lib.hid (values_any w A n c)
  have CS := Lib.hid (sortedFunc_any (w.alloc (.cells #[.slice A n c] 23)) w.heap.size n c A l hl hn (by simp) (by rw [World.cell?_alloc_new]; rfl) ((h.below hal).more (by simp)))
  have HAL := Lib.hid hal
  clear h hl hal
  go_enter Try.func31, Try.ntmps31
  go_wp2_with fail
  refine C.out.mono ?_
  rintro e w1 ⟨rfl, rfl⟩
  go_wp2_with fail
  refine CS.out.mono ?_
  rintro e w2 ⟨v, l', rfl, hp, hr, ho, hb⟩
  have HF := Lib.hid (show RisP l w (.returned v) w2 from ⟨v, l', rfl, hp, hr, ho.low (by simp), HAL.out.trans (hb.mono (by simp))⟩)
  clear ho hb hp hr
  go_wp2
  go_ret
  exact HF.out
end Go.Proofs.Ytjeiechkndfhmaa
