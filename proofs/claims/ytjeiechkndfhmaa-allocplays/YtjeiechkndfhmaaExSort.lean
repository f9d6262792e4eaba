/-
  slices.SortFunc at extents, by their Starts: a row of the call's own is put into rising order. Conditions: the row is the call's own.
-/
import Derived.Test.YtjeiechkndfhmaaExLay
import Derived.Test.YtjeiechkndfhmaaExFns
import Derived.Lib.SmallJoins
namespace Go.Proofs.Ytjeiechkndfhmaa
open Go.Shelf Go.RowKit Go.Lib Go.Sort

/-- An extent's two cells. -/
def enc2 (x : Int × Int) : List Value := [.int .i64 x.1, .int .i64 x.2]
theorem flat2 (l : List (Int × Int)) : (flatK enc2 2 l.toArray).toList = cs2 l := by
  apply List.ext_getElem?
  intro t
  by_cases ht : t < l.length * 2
  · have hs : t < (flatK enc2 2 l.toArray).size := by simpa using ht
    rw [Array.getElem?_toList, Array.getElem?_eq_getElem hs, ← getElem!_pos (flatK enc2 2 l.toArray) t hs, get_flatK _ _ _ _ (by simpa using ht)]
    obtain ⟨c0, c1⟩ := cs2_get l (t / 2) (by omega)
    have hi : t / 2 < l.toArray.size := by simp; omega
    rw [getElem!_pos l.toArray (t / 2) hi]
    rcases Nat.mod_two_eq_zero_or_one t with hm | hm
    · rw [hm]
      have e : t / 2 * 2 = t := by omega
      rw [e] at c0
      rw [c0]; rfl
    · rw [hm]
      have e : t / 2 * 2 + 1 = t := by omega
      rw [e] at c1
      rw [c1]; rfl
  · rw [List.getElem?_eq_none (l := cs2 l) (by rw [length_cs2]; omega), List.getElem?_eq_none (by simp; omega)]
section
variable {w : World} {base g n c : Nat} {l : List (Int × Int)}
theorem Own2.holdsK (h : Own2 w base (.slice (some ⟨g, 0, none⟩) n c) l) (hn : n = l.length) : HoldsK enc2 2 w g 0 l.toArray := by
  subst hn
  intro j hj
  rw [Nat.zero_add]
  have hj' : j < l.length * 2 := by simpa using hj
  refine ⟨?_, World.ownsRow.frozenAt h j⟩
  rw [World.ownsRow.cellAt h j hj', ← flat2, Array.getElem?_toList, Array.getElem?_eq_getElem hj, getElem!_pos (flatK enc2 2 l.toArray) j hj]
  rfl
theorem heap_grow {w : World} (os : Array Obj) {k : Nat} (hk : k < w.heap.size) : (grow w os).heap[k]? = w.heap[k]? := by
  unfold grow; rw [Array.getElem?_append_left hk]
theorem Own2.sorted (h : Own2 w base (.slice (some ⟨g, 0, none⟩) n c) l) (hn : n = l.length) (hg : g < w.heap.size) (hbase : base ≤ g) (m : Nat) (os : Array Obj) (l' : List (Int × Int)) (hl : l'.length = l.length) :
    Own2 (sortWorldK enc2 2 w g 0 m l'.toArray os) base (.slice (some ⟨g, 0, none⟩) n c) l' ∧ Go.RowKit.Below base w (sortWorldK enc2 2 w g 0 m l'.toArray os) := by
  subst hn
  have hsz : (putRowK enc2 2 (Sort.ahead w m) g 0 l'.toArray).heap.size = w.heap.size := by unfold putRowK; rw [size_putRow]; rfl
  refine ⟨?_, ⟨rfl, rfl, rfl, ?_, fun k hk => ?_⟩⟩
  · rcases h.2 with ⟨e, _⟩ | ⟨g', cap, cur, e, hB, hg', hnc, hcm, hcs, htake⟩
    · cases e
    · simp only [Value.slice.injEq, Option.some.injEq, Addr.mk.injEq, and_true, true_and] at e
      obtain ⟨rfl, rfl⟩ := e
      refine ⟨length_cs2 l', .inr ⟨g, c, putCells id 0 (flatK enc2 2 l'.toArray) cur, by rw [hl], hB, ?_, by omega, hcm, by unfold putCells; simpa using hcs, ?_⟩⟩
      · unfold sortWorldK
        rw [heap_grow _ (by rw [hsz]; exact hg)]
        unfold putRowK putRow mapBlock
        show (w.heap.modify g _)[g]? = _
        rw [Array.getElem?_modify, if_pos rfl, hg']
        rfl
      · rw [← flat2 l']
        apply List.ext_getElem?
        intro t
        by_cases ht : t < l.length * 2
        · have hct : t < cur.size := by rw [hcs]; have := Nat.mul_le_mul_right 2 hnc; omega
          have hs : t < (flatK enc2 2 l'.toArray).size := by simp; omega
          have h0 : 0 ≤ t ∧ t < 0 + (flatK enc2 2 l'.toArray).size := ⟨Nat.zero_le _, by omega⟩
          rw [List.getElem?_take, if_pos (by rw [hl]; exact ht), Array.getElem?_toList, Array.getElem?_toList, Array.getElem?_eq_getElem hs]
          unfold putCells
          rw [Array.getElem?_mapIdx, Array.getElem?_eq_getElem hct, Option.map_some, if_pos h0, Nat.sub_zero, getElem!_pos (flatK enc2 2 l'.toArray) t hs]
          rfl
        · rw [List.getElem?_take, if_neg (by rw [hl]; exact ht), List.getElem?_eq_none (by simp; omega)]
  · unfold sortWorldK; rw [size_grow, hsz]; exact Nat.le_add_right _ _
  · have hk' : k < w.heap.size := by omega
    unfold sortWorldK
    rw [heap_grow _ (by rw [hsz]; exact hk')]
    unfold putRowK putRow mapBlock
    show (w.heap.modify g _)[k]? = _
    rw [Array.getElem?_modify, if_neg (by omega)]
end
/-- The comparison. -/
def cfE (x y : Int × Int) : Int := Lib.compareInt x.1 y.1
theorem ltE (x y : Int × Int) : ltOf cfE x y = decide (x.1 < y.1) := by
  unfold ltOf cfE Lib.compareInt
  by_cases h1 : x.1 < y.1
  · simp [h1]
  · by_cases h2 : y.1 < x.1 <;> simp [h1, h2]
theorem swoE : SWO (ltOf cfE) where
  irrefl x := by rw [ltE]; simp
  trans x y z h1 h2 := by rw [ltE] at *; simp at *; omega
  ntrans x y z h1 h2 := by rw [ltE] at *; simp at *; omega
set_option maxHeartbeats 1000000 in
theorem closureE (x y : Int × Int) (W : World) : Calls Try.prog 54 #[.agg #[.int .i64 x.1, .int .i64 x.2], .agg #[.int .i64 y.1, .int .i64 y.2]] W fun e w' => e = .returned (.int .i64 (cfE x y)) ∧ ∃ q os', w' = grow (W.drewN q) os' := by
  have hcon := fun W' => AnyG.cmp_Compare_int cmpInt x.1 y.1 W'
  change ∀ W', Calls Try.prog 40 _ _ _ at hcon
  unfold cfE
  generalize Lib.compareInt x.1 y.1 = r at hcon ⊢
  go_enter Try.func54, Try.ntmps54
  go_wp2_with (go_at_call 40; refine (hcon _).mono ?_; rintro e w' ⟨rfl, rfl⟩)
  go_ret
  exact ⟨rfl, 0, _, by rw [alloc_eq_grow, alloc_eq_grow, grow_grow]; rfl⟩
theorem cmpLaysE (blk off size : Nat) (w : World) : CmpLays Try.prog 54 #[] enc2 2 cfE blk off size w :=
  fun _ _ _ _ x y => closureE x y _
/-- What the sort leaves. -/
def Sorted (l : List (Int × Int)) (base : Nat) (v : Value) (w : World) (e : Ending) (w' : World) : Prop :=
  e = .returned (.tuple #[]) ∧ ∃ l', l.Perm l' ∧ l'.Pairwise Ex.Rise ∧ Own2 w' base v l' ∧ Go.RowKit.Below base w w'
theorem sort_some (w : World) (base g n c : Nat) (l : List (Int × Int)) (h : Own2 w base (.slice (some ⟨g, 0, none⟩) n c) l) (hn : n = l.length) (hs : n ≤ 1000000) (hg : g < w.heap.size) (hbase : base ≤ g) :
    Calls Try.prog 48 #[.slice (some ⟨g, 0, none⟩) n c, .func (.func 54) #[] #[]] w (Sorted l base (.slice (some ⟨g, 0, none⟩) n c) w) := by
  have eg : ∀ args w, (callFunc 54 args).run Try.prog w = .ok (.enter 54 args) w := enters_of Try.func54 (by kernel_rfl) rfl
  have hcon := AnyQ.slices_SortFunc sortExt 2 Try.isAgg34 Try.sizeOf34 enc2 (fun _ => rfl) (fun x v hv => by simp [enc2] at hv; rcases hv with rfl | rfl <;> rfl) cfE swoE 54 #[] g 0 c l.toArray w eg (cmpLaysE g 0 l.toArray.size w) (h.holdsK hn) hg (by simp; omega)
  have e : l.toArray.size = n := by simp [hn]
  rw [e] at hcon
  change Calls Try.prog 48 _ _ _ at hcon
  refine hcon.mono ?_
  rintro en w' ⟨rfl, d', m, os, hp, hso, rfl⟩
  obtain ⟨hp1, _, hp2⟩ := hp
  rw [e] at hp1
  have ed : d' = d'.toList.toArray := by simp
  have hlen : d'.toList.length = l.length := by simp; omega
  obtain ⟨o1, o2⟩ := h.sorted hn hg hbase m os d'.toList hlen
  rw [← ed] at o1 o2
  refine ⟨rfl, d'.toList, ?_, ?_, o1, o2⟩
  · have h1 : d'.extract 0 n = d' := by rw [← hp1]; simp
    have h2 : l.toArray.extract 0 n = l.toArray := by rw [← e]; simp
    rw [h1, h2] at hp2
    exact hp2.symm
  · refine List.pairwise_iff_getElem.2 fun i j hi hj hij => ?_
    have hi' : i < d'.size := by simpa using hi
    have hj' : j < d'.size := by simpa using hj
    have := hso i j (Nat.zero_le _) hij (by omega)
    rw [ltE, getElem!_pos d' i hi', getElem!_pos d' j hj'] at this
    simp only [decide_eq_false_iff_not] at this
    unfold Ex.Rise
    simp only [Array.getElem_toList]
    omega
end Go.Proofs.Ytjeiechkndfhmaa
