/-
  The chapter's example, as the laws of layer 16 ask it: a slot with the limit 1 is set, and then it is full. No conditions.
-/
import Derived.Test.YtoeboblkboillaaAnFns
namespace Go.Proofs.Ytoeboblkboillaa
open Go.RowKit Arr Go.Sort

/-- An array of bytes of which the first is told. -/
theorem built_first (z : Int) : Try.prog.built 22 [(0, .int .u8 z)] = some (.int .u8 z :: nv .u8 (zs 31)).toArray := by kernel_rfl
def fst (c : Nat) : List Nat := c :: zs 31
theorem len_fst (c : Nat) : (fst c).length = 32 := rfl
theorem two_fst (c d : Nat) : Two32 (fst c) (fst d) := ⟨rfl, rfl⟩
/-- An array is made whose first byte is told. -/
theorem buildK {ops : Array Oper} {rest : List Oper} {dst : Option Tmp} {ty : TypeId} {pos : String} {after : Array Edge} {gd : Option (Nat × Bool)} {a : Act} {w : World} {Q : Exit → Act → World → Prop} {y : Operand} (c : Nat) (z : Int) (hc : (c : Int) = z)
    (hw : Region.wanted { dst := dst, op := .build 22 #[(0, y)], type := ty, pos := pos, after := after, guard := gd } (yielded ops a.tmps) = true) (hy : a.eval y = .int .u8 z)
    (h : wpList Try.prog ops Q rest (a.put dst (.agg (na .u8 (fst c)))) w) : wpList Try.prog ops Q ({ dst := dst, op := .build 22 #[(0, y)], type := ty, pos := pos, after := after, guard := gd } :: rest) a w :=
  wpList_step fun _ hK => by
    rw [if_pos hw]
    have hz : Try.prog.built 22 ((#[(0, y)] : Array (Nat × Operand)).map fun (i, x) => (i, a.eval x)).toList = some (na .u8 (fst c)) := by
      subst hc
      have e : (.int .u8 (c : Int) :: nv .u8 (zs 31)).toArray = na .u8 (fst c) := rfl
      simp only [List.map_toArray, List.map_cons, List.map_nil, hy]
      rw [← e]; exact built_first (c : Int)
    exact wp_build 22 #[(0, y)] rfl (by rw [hz]; rfl) (by rw [hz]; exact hK _ _ h)

/-- What a call answers that leaves what was there. -/
def BelP (v : Value) (w : World) (en : Ending) (w' : World) : Prop := en = .returned v ∧ Below w.heap.size w w'
set_option maxRecDepth 100000 in
theorem awake_any (w : World) : Calls Try.prog 4 #[] w (BelP (.bool true) w) := by
  have h1 : ((1 : Nat) : Int) = 1 := rfl
  have h2 : ((2 : Nat) : Int) = 2 := rfl
  have h3 : ((3 : Nat) : Int) = 3 := rfl
  have h4 : ((4 : Nat) : Int) = 4 := rfl
  have h5 : ((5 : Nat) : Int) = 5 := rfl
  have C1 := Lib.hid (show Calls Try.prog 5 #[.agg (na .u8 (fst 1)), .int .i64 1] w (NewsP (fst 1) 1 w) from annew_ok w (fst 1) (len_fst 1) 1 (by omega))
  have T23 := two_fst 2 3
  go_enter Try.func4, Try.ntmps4
  go_wp2_with (first | (with_reducible refine buildK 1 1 h1 rfl rfl ?_) | fail)
  refine C1.out.mono ?_
  rintro en w1 ⟨v, rfl, g, rfl, hg, hs, hb⟩
  have C2 := Lib.hid (anset_ok hs (by omega) (by omega) (fst 2) (fst 3) T23)
  have HB1 := Lib.hid hb
  have HL1 := Lib.hid (And.intro hg hs.lt)
  clear hg hs hb C1
  go_wp2_with (first | (with_reducible refine buildK 2 2 h2 rfl rfl ?_) | (with_reducible refine buildK 3 3 h3 rfl rfl ?_) | fail)
  refine C2.out.mono ?_
  rintro en w2 ⟨rfl, hs, ho⟩
  have HB2 := Lib.hid (HB1.out.trans (ho.below HL1.out.1 HB1.out.size))
  have C3 := Lib.hid (anset_full hs (by omega) (by omega) (fst 4) (fst 5))
  have HS2 := Lib.hid hs
  clear hs ho C2 HB1 HL1
  go_wp2_with (first | (with_reducible refine buildK 4 4 h4 rfl rfl ?_) | (with_reducible refine buildK 5 5 h5 rfl rfl ?_) | fail)
  refine C3.out.mono ?_
  rintro en w3 ⟨rfl, q, os, hw⟩
  have hb3 : Below w2.heap.size w2 w3 := by rw [hw]; exact below_grow w2 q os
  have HB3 := Lib.hid (HB2.out.trans (hb3.mono HB2.out.size))
  have C4 := Lib.hid (show Calls Try.prog 6 #[.pointer (some ⟨g, 0, none⟩)] w3 (GrP (.agg (ra 1 (fst 2) (fst 3))) w3) from anget_any (HS2.out.below hb3) (by decide))
  clear hw hb3 HB2 HS2 C3
  go_wp2_with (first | (with_reducible refine buildK 2 2 h2 rfl rfl ?_) | (with_reducible refine buildK 3 3 h3 rfl rfl ?_) | fail)
  refine C4.out.mono ?_
  rintro en w4 ⟨rfl, hgr⟩
  have HB4 := Lib.hid (HB3.out.trans (hgr.below.mono HB3.out.size))
  have RE := run_eq_root w4 1 1 (fst 2) (fst 3) (fst 2) (fst 3) T23 T23
  rw [show decide ((1 : Int) = 1 ∧ fst 2 = fst 2 ∧ fst 3 = fst 3) = true from decide_eq_true ⟨rfl, rfl, rfl⟩] at RE
  clear HB3 C4 hgr
  go_wp2_with (first | (with_reducible refine buildK 2 2 h2 rfl rfl ?_) | (with_reducible refine buildK 3 3 h3 rfl rfl ?_) | (with_reducible refine buildR3 1 (fst 2) (fst 3) T23 rfl rfl rfl rfl ?_) | (with_reducible refine eqlR _ RE rfl rfl rfl ?_) | fail)
  go_ret
  exact ⟨rfl, HB4.out⟩
end Go.Proofs.Ytoeboblkboillaa
