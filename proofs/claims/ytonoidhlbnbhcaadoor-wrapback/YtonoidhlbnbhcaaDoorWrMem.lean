/-
  Contracts of wrap.joined, lay and counted: A and a piece as a block, and back. Conditions: the text's bytes lie in its block; the table of widths stands in its variable.
-/
import Derived.Test.YtonoidhlbnbhcaaDoorWrFns
import Derived.Test.YtonoidhlbnbhcaaDoorWPut64
import Derived.Test.YtonoidhlbnbhcaaDoorLaidArr
import Derived.Deep.Cut
namespace Go.Proofs.YtonoidhlbnbhcaaDoor.Arr
open Go.RowKit
variable {P : Program} {t e : TypeId} {n : Nat} {k : IntKind}
theorem sliceH (o : Of P t e n k) (w : World) (g i : Nat) (kh : IntKind) (h : Int) (b : Nat) (hb : h = (b : Int)) (h2 : b ≤ n) :
    (Instr.sliceAt t (.pointer (some ⟨g, i, none⟩)) none (some (.int kh h)) none).run P w = .ok (.slice (some ⟨g, i, none⟩) b n) w := by
  subst hb
  have h0 : (⟨g, i, none⟩ : Addr).add 0 = ⟨g, i, none⟩ := by simp [Addr.add]
  rw [run_sliceAt_array_h w t _ o.under kh _ (by omega) (by rw [o.arrayLen]; omega), o.size]
  simp only [Result.andThen_ok, slicedAt, o.arrayLen, Int.toNat_natCast, Nat.zero_mul, h0, Nat.sub_zero]
  split <;> rfl
end Go.Proofs.YtonoidhlbnbhcaaDoor.Arr
namespace Go.Proofs.YtonoidhlbnbhcaaDoor
open Go.RowKit Arr Gf Sb Ae Wr

theorem size1_u8 : (Tryd.prog.info? 5).map (·.size) = some 1 := by kernel_rfl
theorem elemB : Tryd.prog.elem 22 = 5 := by have := Tryd.underlying22; simp only [Program.elem, this]
theorem underB : Tryd.prog.underlying 22 = some (.slice (Tryd.prog.elem 22)) := by rw [elemB]; exact Tryd.underlying22
theorem sizeofB (W : World) : (sizeOf (Tryd.prog.elem 22)).run Tryd.prog W = .ok 1 W := by
  have := o16.size W
  rwa [o16.elem, ← elemB] at this
/-- What is behind place o of a text. -/
theorem run_behind (g N c o : Nat) (h : o < c) (h2 : o ≤ N) (W : World) :
    (Instr.slice 22 (.slice (some ⟨g, 0, none⟩) N c) (some (.int .i64 (o : Int))) none none).run Tryd.prog W = .ok (.slice (some ⟨g, o, none⟩) (N - o) (c - o)) W := by
  rw [run_slice_l W 22 _ N c underB .i64 _ (by omega) (by omega), sizeofB]
  simp only [Result.andThen_ok, sliced, Int.toNat_natCast, Nat.mul_one]
  rw [if_neg (by omega), Option.map_some, add_nat, Nat.zero_add]

theorem take_len {l : List Nat} {n : Nat} (h : n ≤ l.length) : (l.take n).length = n := by simp; omega
theorem take_get (l : List Nat) (n i : Nat) (h : i < n) : (l.take n).getD i 0 = l.getD i 0 := by simp [List.getD_eq_getElem?_getD, h]
theorem drop_get (l : List Nat) (n i : Nat) : (l.drop n).getD i 0 = l.getD (n + i) 0 := by simp [List.getD_eq_getElem?_getD, List.getElem?_drop]

/-- What stands while a text is read into a block. -/
structure Jo (w : World) (g : Nat) (l x : List Nat) (w' : World) : Prop where
  text : Holds w' g .u8 l
  res : Holds w' w.heap.size .u8 (zs 16)
  who : Holds w' (w.heap.size + 1) .u8 x
  bel : Below w.heap.size w w'
theorem Jo.drew {w w' : World} {g : Nat} {l x : List Nat} (h : Jo w g l x w') : Jo w g l x w'.drew := ⟨h.text.drew, h.res.drew, h.who.drew, below_drew h.bel⟩
theorem Jo.copied {w w' : World} {g : Nat} {l x : List Nat} (h : Jo w g l x w') (hg : g < w.heap.size) (o : Nat) (m : List Nat) (hm : o + m.length ≤ x.length) : Jo w g l (spl x o m) (w'.setCells (w.heap.size + 1) o (nv .u8 m)) :=
  ⟨h.text.apart _ _ _ (by omega), h.res.apart _ _ _ (by omega), by have := HAt.spliced (Holds.at0 h.who) o m hm; rwa [Nat.zero_add] at this, below_setCells (by omega) _ _ _ h.bel⟩
theorem Jo.begin (w : World) (g : Nat) (l : List Nat) (h : Holds w g .u8 l) (hg : g < w.heap.size) : Jo w g l (zs 16) ((w.alloc (.cells (na .u8 (zs 16)) 45)).alloc (.cells (na .u8 (zs 16)) 45)) := by
  obtain ⟨A1, A2, A3⟩ := two_new w (zs 16) 45
  exact ⟨h.below A3 hg, A1, A2, A3⟩
theorem jn_spl (l : List Nat) (o : Nat) (h8 : 8 ≤ l.length) (ho : o + 8 ≤ l.length) : spl (spl (zs 16) 0 (l.take 8)) 8 ((l.drop o).take 8) = jn l o := by
  have e1 : (l.take 8).length = 8 := take_len h8
  have e2 : ((l.drop o).take 8).length = 8 := take_len (by rw [List.length_drop]; omega)
  have e3 : (spl (zs 16) 0 (l.take 8)).length = 16 := by rw [length_spl _ _ _ (by rw [e1, length_zs]; omega), length_zs]
  refine list_ext (n := 16) (by rw [length_spl _ _ _ (by rw [e2, e3]; omega), e3]) (length_jn ..) fun i hi => ?_
  rw [spl_get _ _ _ (by rw [e2, e3]; omega), spl_get _ _ _ (by rw [e1, length_zs]; omega), jn_get _ _ _ hi, e1, e2]
  by_cases h : i < 8
  · rw [if_neg (by omega), if_pos (by omega), if_pos h, take_get _ _ _ (by omega)]; rfl
  · rw [if_pos (by omega), if_neg h, take_get _ _ _ (by omega), drop_get]

set_option maxHeartbeats 1000000 in
theorem joined_any (g N c n o : Nat) (l : List Nat) (hl : Tx n l) (hN : N = 8 * (n + 1)) (hc : N ≤ c) (ho : o + 8 ≤ 8 * (n + 1)) (w : World) (h : Holds w g .u8 l) :
    Calls Tryd.prog 37 #[.slice (some ⟨g, 0, none⟩) N c, .int .i64 (o : Int)] w (GivesA (jn l o) w) := by
  have hl1 := hl.1
  have hg : g < w.heap.size := h.lt (by omega)
  have J0 := Lib.hid (Jo.begin w g l h hg)
  have e1 : (l.take 8).length = 8 := take_len (by omega)
  have e2 : ((l.drop o).take 8).length = 8 := take_len (by rw [List.length_drop]; omega)
  have HJ := Lib.hid (jn_spl l o (by omega) (by omega))
  have lj := length_jn l o
  have hs1 := fun W : World => sliceH o16 W (w.heap.size + 1) 0 .i64 8 8 rfl (by omega)
  have hs2 : ∀ W : World, (Instr.sliceAt 45 (.pointer (some ⟨w.heap.size + 1, 0, none⟩)) (some (.int .i64 8)) none none).run Tryd.prog W = .ok (.slice (some ⟨w.heap.size + 1, 8, none⟩) 8 8) W := fun W => by
    have := sliceL o16 W (w.heap.size + 1) 0 .i64 8 8 rfl (by omega)
    rwa [Nat.zero_add] at this
  have hs3 := fun W : World => run_behind g N c o (by omega) (by omega) W
  have C1 : Go.RowKit.Hid (∀ w', Jo w g l (zs 16) w' → (Builtin.copy_ #[22, 22] 3 #[.slice (some ⟨w.heap.size + 1, 0, none⟩) 8 16, .slice (some ⟨g, 0, none⟩) N c]).run Tryd.prog w' = .ok (goInt 8) (w'.setCells (w.heap.size + 1) 0 (nv .u8 (l.take 8)))) := Lib.hid (fun w' j => by
    have := run_copy_bytes (P := Tryd.prog) w' 22 22 3 5 Tryd.underlying22 size1_u8 (w.heap.size + 1) 0 8 16 g 0 N c (zs 16) (l.take 8) (Holds.at0 j.who) (by rw [e1]; show 8 = min N 8; omega) (by rw [e1, length_zs]; omega) (fun i hi => by rw [Nat.zero_add, j.text.cell i (by omega), take_get _ _ _ (by omega)])
    rwa [e1] at this)
  have C2 : Go.RowKit.Hid (∀ w' x, x.length = 16 → Jo w g l x w' → (Builtin.copy_ #[22, 22] 3 #[.slice (some ⟨w.heap.size + 1, 8, none⟩) 8 8, .slice (some ⟨g, o, none⟩) (N - o) (c - o)]).run Tryd.prog w' = .ok (goInt 8) (w'.setCells (w.heap.size + 1) 8 (nv .u8 ((l.drop o).take 8)))) := Lib.hid (fun w' x hx j => by
    have := run_copy_bytes (P := Tryd.prog) w' 22 22 3 5 Tryd.underlying22 size1_u8 (w.heap.size + 1) 8 8 8 g o (N - o) (c - o) _ ((l.drop o).take 8) (HAt.part (Holds.at0 j.who) 8 8 (by rw [hx]; omega)) (by rw [e2]; show 8 = min (N - o) 8; omega) (by rw [e2, take_len (by rw [List.length_drop]; omega)]; omega) (fun i hi => by rw [j.text.cell (o + i) (by omega), take_get _ _ _ (by omega), drop_get])
    rwa [e2] at this)
  have X1 : Go.RowKit.Hid (∀ w', Jo w g l (zs 16) w' → Jo w g l (spl (zs 16) 0 (l.take 8)) (w'.setCells (w.heap.size + 1) 0 (nv .u8 (l.take 8)))) := Lib.hid (fun w' j => j.copied hg 0 _ (by rw [e1, length_zs]; omega))
  have lx : (spl (zs 16) 0 (l.take 8)).length = 16 := by rw [length_spl _ _ _ (by rw [e1, length_zs]; omega), length_zs]
  have X2 : Go.RowKit.Hid (∀ w', Jo w g l (spl (zs 16) 0 (l.take 8)) w' → Jo w g l (jn l o) (w'.setCells (w.heap.size + 1) 8 (nv .u8 ((l.drop o).take 8)))) := Lib.hid (fun w' j => by rw [← HJ.out]; exact j.copied hg 8 _ (by rw [e2, lx]; omega))
  clear h hl hl1 HJ hN
  generalize spl (zs 16) 0 (l.take 8) = x at *
  generalize jn l o = y at *
  generalize (l.drop o).take 8 = m2 at *
  generalize l.take 8 = m1 at *
  go_enter Tryd.func37, Tryd.ntmps37
  go_upto_region 2 with (first | (with_reducible refine Arr.alloc (t := 45) _ z16 ?_) | fail)
  generalize (w.alloc (.cells (na .u8 (zs 16)) 45)).alloc (.cells (na .u8 (zs 16)) 45) = w2 at *
  have D1 := Lib.hid (C1.out w2 J0.out)
  have J1 := Lib.hid (X1.out w2 J0.out)
  clear C1 X1 J0
  go_wp2_with (first | (with_reducible refine Arr.list_copy (.slice (some ⟨w.heap.size + 1, 0, none⟩) 8 16) (.slice (some ⟨g, 0, none⟩) N c) _ (w2.setCells (w.heap.size + 1) 0 (nv .u8 m1)) rfl rfl D1.out ?_) | fail)
  generalize w2.setCells (w.heap.size + 1) 0 (nv .u8 m1) = w3 at *
  clear D1
  refine region_tail 4 (by kernel_rfl) (by kernel_rfl) ?_
  intro wd hwd
  have J2 : Jo w g l x wd := by rw [hwd]; exact J1.out.drew
  clear hwd J1
  have D2 := Lib.hid (C2.out wd x lx J2)
  have J3 := Lib.hid (X2.out wd J2)
  clear C2 X2 J2
  simp only [List.take_succ_cons, List.take_zero, List.drop_succ_cons, List.drop_zero]
  repeat still_step
  refine wpStill_nil ?_
  go_wp2_with (first | (with_reducible refine Arr.list_copy (.slice (some ⟨w.heap.size + 1, 8, none⟩) 8 8) (.slice (some ⟨g, o, none⟩) (N - o) (c - o)) _ (wd.setCells (w.heap.size + 1) 8 (nv .u8 m2)) rfl rfl D2.out ?_) | (with_reducible refine Arr.load o16 (w.heap.size + 1) y lj J3.out.who rfl ?_) | (with_reducible refine Arr.store o16 w.heap.size (zs 16) y (length_zs _) J3.out.res lj rfl rfl ?_) | fail)
  have X4 := J3.out.res.put y (by rw [lj, length_zs])
  exact bodyPost_ret (v := .agg (na .u8 y)) (results_arr o16 rfl _ _ w.heap.size y lj X4 rfl) rfl ⟨rfl, below_setCells (Nat.le_refl _) _ _ _ J3.out.bel⟩
end Go.Proofs.YtonoidhlbnbhcaaDoor
