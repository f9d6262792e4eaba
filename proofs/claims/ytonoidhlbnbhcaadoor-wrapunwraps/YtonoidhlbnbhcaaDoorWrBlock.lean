/-
  Contracts of wrap's small functions: pieces, steps, place, Size. No conditions.
  The contract of word.Put64, for seats with W32 and without sha. Condition: the table of widths stands in its variable.
  What word.Put32 and word.Put64 lay, as arrays are held. No conditions.
  Contracts of wrap.joined, lay and counted: A and a piece as a block, and back. Conditions: the text's bytes lie in its block; the table of widths stands in its variable.
  Own lemmas: one world and a later one, between which one block alone, of those that were there, has changed. No program is named here; no conditions.
  Contracts of wrap.lay and wrap.counted: a block laid back, its A put together with a number. Conditions: the text's bytes lie in its block; the table of widths stands in its variable.
-/
import Derived.Test.YtonoidhlbnbhcaaDoorWrNum
import Derived.Test.YtonoidhlbnbhcaaDoorWordAll
import Derived.Test.YtonoidhlbnbhcaaDoorAesDec
import Derived.Test.YtonoidhlbnbhcaaDoorArrAll
import Derived.Deep.Cut
import Derived.Test.YtonoidhlbnbhcaaDoorBytes
import Derived.Test.YtonoidhlbnbhcaaDoorAesTog
namespace Go.Proofs.YtonoidhlbnbhcaaDoor
open Go.RowKit Arr Gf Sb Ae Wr

theorem pieces_any (A : Option Addr) (N c n : Nat) (hN : N = 8 * (n + 1)) (hn : n ≤ 8) (w : World) : Calls Tryd.prog 54 #[.slice A N c] w fun e w' => e = .returned (.int .i64 (n : Int)) ∧ w = w' := by
  have h1 : (N : Int).tdiv 8 = (n : Int) + 1 := by rw [Int.tdiv_eq_ediv_of_nonneg (by omega)]; omega
  have h2 : (N : Int) / 8 = (n : Int) + 1 := by omega
  have h3 : IntKind.i64.wrap ((n : Int) + 1) = (n : Int) + 1 := by rw [IntKind.wrap_i64]; omega
  have h4 : IntKind.i64.wrap (n : Int) = (n : Int) := wrap_nat n (by omega)
  have h5 : (n : Int) + 1 - 1 = (n : Int) := by omega
  clear hN
  go_enter Tryd.func54, Tryd.ntmps54
  go_wp2
  go_ret
  exact ⟨ret_int (by first | rfl | omega), rfl⟩
theorem steps_any (A : Option Addr) (N c n : Nat) (hN : N = 8 * (n + 1)) (hn : n ≤ 8) (w : World) : Calls Tryd.prog 32 #[.slice A N c] w fun e w' => e = .returned (.int .i64 ((6 * n : Nat) : Int)) ∧ w = w' := by
  have C := Lib.hid (pieces_any A N c n hN hn w)
  have h3 : IntKind.i64.wrap (6 * (n : Int)) = 6 * (n : Int) := by rw [IntKind.wrap_i64]; omega
  clear hN
  go_enter Tryd.func32, Tryd.ntmps32
  go_wp2_with fail
  refine C.out.mono ?_
  rintro e w' ⟨rfl, rfl⟩
  go_wp2
  go_ret
  exact ⟨ret_int (by omega), rfl⟩
theorem place_any (A : Option Addr) (N c n t : Nat) (hN : N = 8 * (n + 1)) (hn : n ≤ 8) (hn0 : 0 < n) (ht : 1 ≤ t) (ht2 : t ≤ 100) (w : World) : Calls Tryd.prog 33 #[.slice A N c, .int .i64 (t : Int)] w fun e w' => e = .returned (.int .i64 ((pl n t : Nat) : Int)) ∧ w = w' := by
  have C := Lib.hid (pieces_any A N c n hN hn w)
  obtain ⟨u, hu⟩ : ∃ u, t = u + 1 := ⟨t - 1, by omega⟩
  subst hu
  have hm : u % n < n := Nat.mod_lt _ hn0
  have HP := Lib.hid (show pl n (u + 1) = (u % n + 1) * 8 by simp [pl])
  have e0 : (((u + 1 : Nat) : Int) - 1) = (u : Int) := by omega
  have w0 : IntKind.i64.wrap (((u + 1 : Nat) : Int) - 1) = (u : Int) := by rw [e0]; exact wrap_nat u (by omega)
  have w1 : IntKind.i64.wrap (u : Int) = (u : Int) := wrap_nat u (by omega)
  have e1 : (u : Int).tmod (n : Int) = ((u % n : Nat) : Int) := by rw [Int.tmod_eq_emod_of_nonneg (by omega)]; simp
  have e2 : (u : Int) % (n : Int) = ((u % n : Nat) : Int) := by simp
  have hz : ((n : Int) == 0) = false := by simp; omega
  have hz2 : ¬ (n : Int) = 0 := by omega
  generalize u % n = m at *
  have w2 : IntKind.i64.wrap (m : Int) = (m : Int) := wrap_nat m (by omega)
  have w3 : IntKind.i64.wrap ((m : Int) + 1) = (m : Int) + 1 := by rw [IntKind.wrap_i64]; omega
  have w4 : IntKind.i64.wrap (((m : Int) + 1) * 8) = ((m : Int) + 1) * 8 := by rw [IntKind.wrap_i64]; omega
  clear hN
  go_enter Tryd.func33, Tryd.ntmps33
  go_wp2_with fail
  refine C.out.mono ?_
  rintro e w' ⟨rfl, rfl⟩
  go_wp2
  go_ret
  exact ⟨ret_int (by rw [HP.out]; omega), rfl⟩
/-- Has a key of n bytes a wrapped one? -/
def may (n : Int) : Bool := decide (16 ≤ n) && decide (n ≤ 64) && decide (n % 8 = 0)
theorem size_any (n : Int) (w : World) : Calls Tryd.prog 9 #[.int .i64 n] w fun e w' => e = .returned (.tuple #[.int .i64 (if may n then n + 8 else 0), .bool (may n)]) ∧ w = w' := by
  by_cases h1 : n < 16
  · have hm : may n = false := by simp [may]; omega
    rw [hm]
    have t1 : decide (n < 16) = true := by simp; omega
    clear hm
    go_enter Tryd.func9, Tryd.ntmps9
    go_wp2
    go_ret2
    exact ⟨rfl, rfl⟩
  · have t1 : decide (n < 16) = false := by simp; omega
    by_cases h2 : 64 < n
    · have hm : may n = false := by simp [may]; omega
      rw [hm]
      have t2 : decide (64 < n) = true := by simp; omega
      clear hm
      go_enter Tryd.func9, Tryd.ntmps9
      go_wp2
      go_ret2
      exact ⟨rfl, rfl⟩
    · have t2 : decide (64 < n) = false := by simp; omega
      have e1 : n.tmod 8 = n % 8 := Int.tmod_eq_emod_of_nonneg (by omega)
      have w1 : IntKind.i64.wrap (n % 8) = n % 8 := by rw [IntKind.wrap_i64]; omega
      by_cases h3 : n % 8 = 0
      · have hm : may n = true := by simp [may]; omega
        rw [hm]
        have t3 : ((0 : Int) != 0) = false := rfl
        have w2 : IntKind.i64.wrap (n + 8) = n + 8 := by rw [IntKind.wrap_i64]; omega
        clear hm
        go_enter Tryd.func9, Tryd.ntmps9
        go_wp2
        go_ret2
        exact ⟨rfl, rfl⟩
      · have hm : may n = false := by simp [may, h3]
        rw [hm]
        have t3 : ((n % 8) != 0) = true := by simp; omega
        have t4 : ((n % 8) == 0) = false := by simp; omega
        have t5 : ((n.tmod 8) != 0) = true := by rw [e1]; exact t3
        clear hm
        go_enter Tryd.func9, Tryd.ntmps9
        go_wp2
        go_ret2
        exact ⟨rfl, rfl⟩
end Go.Proofs.YtonoidhlbnbhcaaDoor
namespace Go.Proofs.YtonoidhlbnbhcaaDoor
open Go.RowKit

theorem put64_any (x : Nat) (w : World) (ht : Tab w 0) : Calls Tryd.prog 15 #[.int .u64 (x : Int)] w (Spread x 8 w) := by
  have HS := Lib.hid (spread_any x 8 (by omega) (by omega) w ht)
  clear ht
  go_enter Tryd.func15, Tryd.ntmps15
  go_wp2_with fail
  refine HS.out.mono ?_
  rintro e w' ⟨arr, hla, rfl, rfl⟩
  have HLA := Lib.hid hla
  clear hla
  go_wp2
  go_ret
  exact ⟨arr, HLA.out, rfl, rfl⟩
end Go.Proofs.YtonoidhlbnbhcaaDoor
namespace Go.Proofs.YtonoidhlbnbhcaaDoor
open Go.RowKit Arr
theorem laid_all {x s : Nat} {arr : Array Value} (h : Laid x s s arr) : arr = na .u8 (bytesOf x s) := by
  apply Array.ext_getElem?
  intro i
  by_cases hi : i < s
  · rw [h.2 i hi, na_get _ _ _ (by rw [length_bytesOf]; exact hi)]
  · rw [Array.getElem?_eq_none (by rw [h.1]; omega), Array.getElem?_eq_none (by rw [size_na, length_bytesOf]; omega)]
theorem laid_cells {x : Nat} {arr : Array Value} (h : Laid x 4 4 arr) : arr = na .u8 (bytesOf x 4) := by
  apply Array.ext_getElem?
  intro i
  by_cases hi : i < 4
  · rw [h.2 i hi, na_get _ _ _ (by rw [length_bytesOf]; exact hi)]
  · rw [Array.getElem?_eq_none (by rw [h.1]; omega), Array.getElem?_eq_none (by rw [size_na, length_bytesOf]; omega)]
end Go.Proofs.YtonoidhlbnbhcaaDoor
namespace Go.Proofs.YtonoidhlbnbhcaaDoor.Arr
open Go.RowKit
variable {P : Program} {t e : TypeId} {n : Nat} {k : IntKind}
theorem sliceH (o : Of P t e n k) (w : World) (g i : Nat) (kh : IntKind) (h : Int) (b : Nat) (hb : h = (b : Int)) (h2 : b ≤ n) :
    (Instr.sliceAt t (.pointer (some ⟨g, i, none⟩)) none (some (.int kh h)) none).run P w = .ok (.slice (some ⟨g, i, none⟩) b n) w := by
  subst hb
  have h0 : (⟨g, i, none⟩ : Addr).add 0 = ⟨g, i, none⟩ := by simp [Addr.add]
  rw [run_sliceAt_array_h w t _ o.under kh _ (by omega) (by rw [o.arrayLen]; omega), o.size]
  simp only [Result.andThen_ok, slicedAt, o.arrayLen, Int.toNat_natCast, Nat.zero_mul, h0, Nat.sub_zero]
  split <;> rfl
end Go.Proofs.YtonoidhlbnbhcaaDoor.Arr
namespace Go.Proofs.YtonoidhlbnbhcaaDoor
open Go.RowKit Arr Gf Sb Ae Wr

theorem size1_u8 : (Tryd.prog.info? 5).map (·.size) = some 1 := by kernel_rfl
theorem elemB : Tryd.prog.elem 22 = 5 := by have := Tryd.underlying22; simp only [Program.elem, this]
theorem underB : Tryd.prog.underlying 22 = some (.slice (Tryd.prog.elem 22)) := by rw [elemB]; exact Tryd.underlying22
theorem sizeofB (W : World) : (sizeOf (Tryd.prog.elem 22)).run Tryd.prog W = .ok 1 W := by
  have := o16.size W
  rwa [o16.elem, ← elemB] at this
/-- What is behind place o of a text. -/
theorem run_behind (g N c o : Nat) (h : o < c) (h2 : o ≤ N) (W : World) :
    (Instr.slice 22 (.slice (some ⟨g, 0, none⟩) N c) (some (.int .i64 (o : Int))) none none).run Tryd.prog W = .ok (.slice (some ⟨g, o, none⟩) (N - o) (c - o)) W := by
  rw [run_slice_l W 22 _ N c underB .i64 _ (by omega) (by omega), sizeofB]
  simp only [Result.andThen_ok, sliced, Int.toNat_natCast, Nat.mul_one]
  rw [if_neg (by omega), Option.map_some, add_nat, Nat.zero_add]

theorem take_len {l : List Nat} {n : Nat} (h : n ≤ l.length) : (l.take n).length = n := by simp; omega
theorem take_get (l : List Nat) (n i : Nat) (h : i < n) : (l.take n).getD i 0 = l.getD i 0 := by simp [List.getD_eq_getElem?_getD, h]
theorem drop_get (l : List Nat) (n i : Nat) : (l.drop n).getD i 0 = l.getD (n + i) 0 := by simp [List.getD_eq_getElem?_getD, List.getElem?_drop]

/-- What stands while a text is read into a block. -/
structure Jo (w : World) (g : Nat) (l x : List Nat) (w' : World) : Prop where
  text : Holds w' g .u8 l
  res : Holds w' w.heap.size .u8 (zs 16)
  who : Holds w' (w.heap.size + 1) .u8 x
  bel : Below w.heap.size w w'
theorem Jo.drew {w w' : World} {g : Nat} {l x : List Nat} (h : Jo w g l x w') : Jo w g l x w'.drew := ⟨h.text.drew, h.res.drew, h.who.drew, below_drew h.bel⟩
theorem Jo.copied {w w' : World} {g : Nat} {l x : List Nat} (h : Jo w g l x w') (hg : g < w.heap.size) (o : Nat) (m : List Nat) (hm : o + m.length ≤ x.length) : Jo w g l (spl x o m) (w'.setCells (w.heap.size + 1) o (nv .u8 m)) :=
  ⟨h.text.apart _ _ _ (by omega), h.res.apart _ _ _ (by omega), by have := HAt.spliced (Holds.at0 h.who) o m hm; rwa [Nat.zero_add] at this, below_setCells (by omega) _ _ _ h.bel⟩
theorem Jo.begin (w : World) (g : Nat) (l : List Nat) (h : Holds w g .u8 l) (hg : g < w.heap.size) : Jo w g l (zs 16) ((w.alloc (.cells (na .u8 (zs 16)) 45)).alloc (.cells (na .u8 (zs 16)) 45)) := by
  obtain ⟨A1, A2, A3⟩ := two_new w (zs 16) 45
  exact ⟨h.below A3 hg, A1, A2, A3⟩
theorem jn_spl (l : List Nat) (o : Nat) (h8 : 8 ≤ l.length) (ho : o + 8 ≤ l.length) : spl (spl (zs 16) 0 (l.take 8)) 8 ((l.drop o).take 8) = jn l o := by
  have e1 : (l.take 8).length = 8 := take_len h8
  have e2 : ((l.drop o).take 8).length = 8 := take_len (by rw [List.length_drop]; omega)
  have e3 : (spl (zs 16) 0 (l.take 8)).length = 16 := by rw [length_spl _ _ _ (by rw [e1, length_zs]; omega), length_zs]
  refine list_ext (n := 16) (by rw [length_spl _ _ _ (by rw [e2, e3]; omega), e3]) (length_jn ..) fun i hi => ?_
  rw [spl_get _ _ _ (by rw [e2, e3]; omega), spl_get _ _ _ (by rw [e1, length_zs]; omega), jn_get _ _ _ hi, e1, e2]
  by_cases h : i < 8
  · rw [if_neg (by omega), if_pos (by omega), if_pos h, take_get _ _ _ (by omega)]; rfl
  · rw [if_pos (by omega), if_neg h, take_get _ _ _ (by omega), drop_get]

set_option maxHeartbeats 1000000 in
theorem joined_any (g N c n o : Nat) (l : List Nat) (hl : Tx n l) (hN : N = 8 * (n + 1)) (hc : N ≤ c) (ho : o + 8 ≤ 8 * (n + 1)) (w : World) (h : Holds w g .u8 l) :
    Calls Tryd.prog 37 #[.slice (some ⟨g, 0, none⟩) N c, .int .i64 (o : Int)] w (GivesA (jn l o) w) := by
  have hl1 := hl.1
  have hg : g < w.heap.size := h.lt (by omega)
  have J0 := Lib.hid (Jo.begin w g l h hg)
  have e1 : (l.take 8).length = 8 := take_len (by omega)
  have e2 : ((l.drop o).take 8).length = 8 := take_len (by rw [List.length_drop]; omega)
  have HJ := Lib.hid (jn_spl l o (by omega) (by omega))
  have lj := length_jn l o
  have hs1 := fun W : World => sliceH o16 W (w.heap.size + 1) 0 .i64 8 8 rfl (by omega)
  have hs2 : ∀ W : World, (Instr.sliceAt 45 (.pointer (some ⟨w.heap.size + 1, 0, none⟩)) (some (.int .i64 8)) none none).run Tryd.prog W = .ok (.slice (some ⟨w.heap.size + 1, 8, none⟩) 8 8) W := fun W => by
    have := sliceL o16 W (w.heap.size + 1) 0 .i64 8 8 rfl (by omega)
    rwa [Nat.zero_add] at this
  have hs3 := fun W : World => run_behind g N c o (by omega) (by omega) W
  have C1 : Go.RowKit.Hid (∀ w', Jo w g l (zs 16) w' → (Builtin.copy_ #[22, 22] 3 #[.slice (some ⟨w.heap.size + 1, 0, none⟩) 8 16, .slice (some ⟨g, 0, none⟩) N c]).run Tryd.prog w' = .ok (goInt 8) (w'.setCells (w.heap.size + 1) 0 (nv .u8 (l.take 8)))) := Lib.hid (fun w' j => by
    have := run_copy_bytes (P := Tryd.prog) w' 22 22 3 5 Tryd.underlying22 size1_u8 (w.heap.size + 1) 0 8 16 g 0 N c (zs 16) (l.take 8) (Holds.at0 j.who) (by rw [e1]; show 8 = min N 8; omega) (by rw [e1, length_zs]; omega) (fun i hi => by rw [Nat.zero_add, j.text.cell i (by omega), take_get _ _ _ (by omega)])
    rwa [e1] at this)
  have C2 : Go.RowKit.Hid (∀ w' x, x.length = 16 → Jo w g l x w' → (Builtin.copy_ #[22, 22] 3 #[.slice (some ⟨w.heap.size + 1, 8, none⟩) 8 8, .slice (some ⟨g, o, none⟩) (N - o) (c - o)]).run Tryd.prog w' = .ok (goInt 8) (w'.setCells (w.heap.size + 1) 8 (nv .u8 ((l.drop o).take 8)))) := Lib.hid (fun w' x hx j => by
    have := run_copy_bytes (P := Tryd.prog) w' 22 22 3 5 Tryd.underlying22 size1_u8 (w.heap.size + 1) 8 8 8 g o (N - o) (c - o) _ ((l.drop o).take 8) (HAt.part (Holds.at0 j.who) 8 8 (by rw [hx]; omega)) (by rw [e2]; show 8 = min (N - o) 8; omega) (by rw [e2, take_len (by rw [List.length_drop]; omega)]; omega) (fun i hi => by rw [j.text.cell (o + i) (by omega), take_get _ _ _ (by omega), drop_get])
    rwa [e2] at this)
  have X1 : Go.RowKit.Hid (∀ w', Jo w g l (zs 16) w' → Jo w g l (spl (zs 16) 0 (l.take 8)) (w'.setCells (w.heap.size + 1) 0 (nv .u8 (l.take 8)))) := Lib.hid (fun w' j => j.copied hg 0 _ (by rw [e1, length_zs]; omega))
  have lx : (spl (zs 16) 0 (l.take 8)).length = 16 := by rw [length_spl _ _ _ (by rw [e1, length_zs]; omega), length_zs]
  have X2 : Go.RowKit.Hid (∀ w', Jo w g l (spl (zs 16) 0 (l.take 8)) w' → Jo w g l (jn l o) (w'.setCells (w.heap.size + 1) 8 (nv .u8 ((l.drop o).take 8)))) := Lib.hid (fun w' j => by rw [← HJ.out]; exact j.copied hg 8 _ (by rw [e2, lx]; omega))
  clear h hl hl1 HJ hN
  generalize spl (zs 16) 0 (l.take 8) = x at *
  generalize jn l o = y at *
  generalize (l.drop o).take 8 = m2 at *
  generalize l.take 8 = m1 at *
  go_enter Tryd.func37, Tryd.ntmps37
  go_upto_region 2 with (first | (with_reducible refine Arr.alloc (t := 45) _ z16 ?_) | fail)
  generalize (w.alloc (.cells (na .u8 (zs 16)) 45)).alloc (.cells (na .u8 (zs 16)) 45) = w2 at *
  have D1 := Lib.hid (C1.out w2 J0.out)
  have J1 := Lib.hid (X1.out w2 J0.out)
  clear C1 X1 J0
  go_wp2_with (first | (with_reducible refine Arr.list_copy (.slice (some ⟨w.heap.size + 1, 0, none⟩) 8 16) (.slice (some ⟨g, 0, none⟩) N c) _ (w2.setCells (w.heap.size + 1) 0 (nv .u8 m1)) rfl rfl D1.out ?_) | fail)
  generalize w2.setCells (w.heap.size + 1) 0 (nv .u8 m1) = w3 at *
  clear D1
  refine region_tail 4 (by kernel_rfl) (by kernel_rfl) ?_
  intro wd hwd
  have J2 : Jo w g l x wd := by rw [hwd]; exact J1.out.drew
  clear hwd J1
  have D2 := Lib.hid (C2.out wd x lx J2)
  have J3 := Lib.hid (X2.out wd J2)
  clear C2 X2 J2
  simp only [List.take_succ_cons, List.take_zero, List.drop_succ_cons, List.drop_zero]
  repeat still_step
  refine wpStill_nil ?_
  go_wp2_with (first | (with_reducible refine Arr.list_copy (.slice (some ⟨w.heap.size + 1, 8, none⟩) 8 8) (.slice (some ⟨g, o, none⟩) (N - o) (c - o)) _ (wd.setCells (w.heap.size + 1) 8 (nv .u8 m2)) rfl rfl D2.out ?_) | (with_reducible refine Arr.load o16 (w.heap.size + 1) y lj J3.out.who rfl ?_) | (with_reducible refine Arr.store o16 w.heap.size (zs 16) y (length_zs _) J3.out.res lj rfl rfl ?_) | fail)
  have X4 := J3.out.res.put y (by rw [lj, length_zs])
  exact bodyPost_ret (v := .agg (na .u8 y)) (results_arr o16 rfl _ _ w.heap.size y lj X4 rfl) rfl ⟨rfl, below_setCells (Nat.le_refl _) _ _ _ J3.out.bel⟩
end Go.Proofs.YtonoidhlbnbhcaaDoor
namespace Go.Proofs.YtonoidhlbnbhcaaDoor
open Go.RowKit Arr

/-- Of the blocks that were there, block g alone may have changed. -/
structure Only (g : Nat) (w w' : World) : Prop where
  os : w'.os = w.os
  tape : w'.tape = w.tape
  output : w'.output = w.output
  size : w.heap.size ≤ w'.heap.size
  block : ∀ k, k < w.heap.size → k ≠ g → w'.heap[k]? = w.heap[k]?
section
variable {g : Nat} {w w' w'' : World}
theorem Only.refl (g : Nat) (w : World) : Only g w w := ⟨rfl, rfl, rfl, Nat.le_refl _, fun _ _ _ => rfl⟩
theorem Only.trans (h : Only g w w') (k : Only g w' w'') : Only g w w'' :=
  ⟨k.os.trans h.os, k.tape.trans h.tape, k.output.trans h.output, Nat.le_trans h.size k.size, fun i hi hn => (k.block i (Nat.lt_of_lt_of_le hi h.size) hn).trans (h.block i hi hn)⟩
theorem Only.of (h : Below w.heap.size w w') : Only g w w' := ⟨h.os, h.tape, h.output, h.size, fun k hk _ => h.block k hk⟩
theorem Only.below (h : Only g w w') {B : Nat} (h1 : B ≤ g) (h2 : B ≤ w.heap.size) : Below B w w' := ⟨h.os, h.tape, h.output, h.size, fun k hk => h.block k (by omega) (by omega)⟩
theorem Only.drewN (h : Only g w w') (n : Nat) : Only g w (w'.drewN n) := ⟨h.os, h.tape, h.output, h.size, h.block⟩
theorem Only.drew (h : Only g w w') : Only g w w'.drew := ⟨h.os, h.tape, h.output, h.size, h.block⟩
theorem Only.alloc (h : Only g w w') (o : Obj) : Only g w (w'.alloc o) := h.trans (Only.of (below_alloc w' o))
theorem Only.setCell (h : Only g w w') (o : Nat) (v : Value) : Only g w (w'.setCell ⟨g, o, none⟩ v) :=
  h.trans ⟨rfl, rfl, rfl, by simp, fun k _ hn => Below.heap_setCell w' ⟨g, o, none⟩ v k hn⟩
theorem Only.setCells (h : Only g w w') : ∀ (vs : List Value) (o : Nat), Only g w (w'.setCells g o vs) := by
  intro vs
  induction vs generalizing w' with
  | nil => intro o; exact h
  | cons v vs ih => intro o; rw [World.setCells]; exact ih (h.setCell o v) _
/-- A write to a block that is new. -/
theorem Only.setNew (h : Only g w w') {b : Nat} (hb : w.heap.size ≤ b) (o : Nat) (v : Value) : Only g w (w'.setCell ⟨b, o, none⟩ v) :=
  ⟨h.os, h.tape, h.output, by simpa using h.size, fun k hk hn => (Below.heap_setCell w' ⟨b, o, none⟩ v k (by simp only; omega)).trans (h.block k hk hn)⟩
theorem Only.setsNew (h : Only g w w') {b : Nat} (hb : w.heap.size ≤ b) : ∀ (vs : List Value) (o : Nat), Only g w (w'.setCells b o vs) := by
  intro vs
  induction vs generalizing w' with
  | nil => intro o; exact h
  | cons v vs ih => intro o; rw [World.setCells]; exact ih (h.setNew hb o v) _
theorem Only.cell (h : Only g w w') {p : Addr} (h1 : p.block < w.heap.size) (h2 : p.block ≠ g) : w'.cell? p = w.cell? p := World.cell?_of_block (w := w) (h.block p.block h1 h2)
theorem Only.frozen (h : Only g w w') {p : Addr} (h1 : p.block < w.heap.size) (h2 : p.block ≠ g) : w'.frozen? p = w.frozen? p := World.frozen?_of_block (w := w) (h.block p.block h1 h2)
theorem HAt.only {b o : Nat} {k : IntKind} {l : List Nat} (h : HAt w b o k l) (hb : Only g w w') (h1 : b < w.heap.size) (h2 : b ≠ g) : HAt w' b o k l :=
  ⟨fun j v hv => (hb.cell (p := ⟨b, o + j, none⟩) h1 h2).trans (h.1 j v hv), fun j hj => by
    rw [hb.cell (p := ⟨b, o + j, none⟩) h1 h2, hb.frozen (p := ⟨b, o + j, none⟩) h1 h2]; exact h.2 j hj⟩
theorem Tab.only {b : Nat} (h : Tab w b) (hb : Only g w w') (h2 : b ≠ g) : Tab w' b := fun j hj => (hb.cell (p := ⟨b, j, none⟩) h.lt h2).trans (h j hj)
end

/-- A table of words of 32 bits that is read. -/
def Tab32 (w : World) (b : Nat) (l : List Nat) : Prop := ∀ j, j < l.length → w.cell? ⟨b, j, none⟩ = some (.int .u32 ((l.getD j 0 : Nat) : Int))
theorem Tab32.lt {w : World} {b : Nat} {l : List Nat} (h : Tab32 w b l) (hl : 0 < l.length) : b < w.heap.size := lt_of_cell (h 0 hl)
theorem Tab32.below {w w' : World} {b B : Nat} {l : List Nat} (h : Tab32 w b l) (hb : Below B w w') (hg : b < B) : Tab32 w' b l := fun j hj => (hb.cell (p := ⟨b, j, none⟩) hg).trans (h j hj)
theorem Tab32.only {w w' : World} {b g : Nat} {l : List Nat} (h : Tab32 w b l) (hb : Only g w w') (hl : 0 < l.length) (hg : b ≠ g) : Tab32 w' b l := fun j hj => (hb.cell (p := ⟨b, j, none⟩) (h.lt hl) hg).trans (h j hj)
theorem Tab32.range {w : World} {b : Nat} {l : List Nat} (h : Tab32 w b l) : w.rangeAt b 0 (nv .u32 l) := fun j v hv => by
  have hj : j < l.length := by
    have := (List.getElem?_eq_some_iff.1 hv).1
    rwa [length_nv] at this
  rw [nv_get .u32 l j hj] at hv
  rw [Nat.zero_add, h j hj]; exact hv

/-- A slice of bytes that lies beside block g. -/
def BysN (w : World) (g : Nat) (A : Option Addr) (bs : List Nat) : Prop :=
  (∀ x, x ∈ bs → x < 256) ∧ (0 < bs.length → ∃ b off, A = some ⟨b, off, none⟩ ∧ b < w.heap.size ∧ b ≠ g ∧ ∀ i, i < bs.length → w.cell? ⟨b, off + i, none⟩ = some (.int .u8 ((bs.getD i 0 : Nat) : Int)))
theorem BysN.of {w : World} {g B : Nat} {A : Option Addr} {bs : List Nat} (h : Bys w B A bs) (hB : B ≤ g) (hw : B ≤ w.heap.size) : BysN w g A bs :=
  ⟨h.1, fun hl => by obtain ⟨b, off, e, hb, hc⟩ := h.2 hl; exact ⟨b, off, e, by omega, by omega, hc⟩⟩
theorem BysN.only {w w' : World} {g : Nat} {A : Option Addr} {bs : List Nat} (h : BysN w g A bs) (hb : Only g w w') : BysN w' g A bs :=
  ⟨h.1, fun hl => by
    obtain ⟨b, off, e, h1, h2, hc⟩ := h.2 hl
    exact ⟨b, off, e, Nat.lt_of_lt_of_le h1 hb.size, h2, fun i hi => (hb.cell (p := ⟨b, off + i, none⟩) h1 h2).trans (hc i hi)⟩⟩
theorem BysN.drop {w : World} {g b off : Nat} {bs : List Nat} (h : BysN w g (some ⟨b, off, none⟩) bs) (i : Nat) : BysN w g (some ⟨b, off + i, none⟩) (bs.drop i) := by
  refine ⟨fun x hx => h.1 x (List.mem_of_mem_drop hx), fun hl => ?_⟩
  have hl' : 0 < bs.length - i := by simpa using hl
  obtain ⟨b', off', e, h1, h2, hc⟩ := h.2 (by omega)
  simp only [Option.some.injEq, Addr.mk.injEq, and_true] at e
  obtain ⟨rfl, rfl⟩ := e
  refine ⟨b, off + i, rfl, h1, h2, fun j hj => ?_⟩
  have hj' : i + j < bs.length := by simp at hj; omega
  have := hc (i + j) hj'
  rw [Nat.add_assoc, this]
  congr 3
  simp
end Go.Proofs.YtonoidhlbnbhcaaDoor
namespace Go.Proofs.YtonoidhlbnbhcaaDoor
open Go.RowKit Arr Gf Sb Ae Wr

/-- A call that leaves the numbers l in block g, and turns no other block that was there. -/
def Turned (g : Nat) (l : List Nat) (w : World) (e : Ending) (w' : World) : Prop := e = .returned (.tuple #[]) ∧ Holds w' g .u8 l ∧ Only g w w'
/-- What stands while a block is laid back. -/
structure La (w : World) (g : Nat) (l b : List Nat) (w' : World) : Prop where
  text : Holds w' g .u8 l
  who : Holds w' w.heap.size .u8 b
  only : Only g w w'
theorem La.drew {w w' : World} {g : Nat} {l b : List Nat} (h : La w g l b w') : La w g l b w'.drew := ⟨h.text.drew, h.who.drew, h.only.drew⟩
theorem La.copied {w w' : World} {g : Nat} {l b : List Nat} (h : La w g l b w') (hg : g < w.heap.size) (o : Nat) (m : List Nat) (hm : o + m.length ≤ l.length) : La w g (spl l o m) b (w'.setCells g o (nv .u8 m)) :=
  ⟨by have := HAt.spliced (Holds.at0 h.text) o m hm; rwa [Nat.zero_add] at this, h.who.apart _ _ _ (by omega), h.only.setCells _ _⟩
theorem La.begin (w : World) (g : Nat) (l b : List Nat) (h : Holds w g .u8 l) : La w g l b (w.alloc (.cells (na .u8 b) 45)) :=
  ⟨h.alloc _, Holds.new w _ .u8 b, (Only.refl g w).alloc _⟩

set_option maxHeartbeats 1000000 in
theorem lay_any (g N c n o : Nat) (l b : List Nat) (hl : l.length = 8 * (n + 1)) (hN : N = 8 * (n + 1)) (hc : N ≤ c) (ho : o + 8 ≤ 8 * (n + 1)) (hb : b.length = 16) (w : World) (h : Holds w g .u8 l) :
    Calls Tryd.prog 34 #[.slice (some ⟨g, 0, none⟩) N c, .int .i64 (o : Int), .agg (na .u8 b)] w (Turned g (ly l o b) w) := by
  have hg : g < w.heap.size := h.lt (by omega)
  have J0 := Lib.hid (La.begin w g l b h)
  have e1 : (b.take 8).length = 8 := take_len (by omega)
  have e2 : (b.drop 8).length = 8 := by simp; omega
  have HJ := Lib.hid (show spl (spl l 0 (b.take 8)) o (b.drop 8) = ly l o b from rfl)
  have lx : (spl l 0 (b.take 8)).length = l.length := length_spl _ _ _ (by rw [e1]; omega)
  have hs1 := fun W : World => sliceH o16 W w.heap.size 0 .i64 8 8 rfl (by omega)
  have hs2 : ∀ W : World, (Instr.sliceAt 45 (.pointer (some ⟨w.heap.size, 0, none⟩)) (some (.int .i64 8)) none none).run Tryd.prog W = .ok (.slice (some ⟨w.heap.size, 8, none⟩) 8 8) W := fun W => by
    have := sliceL o16 W w.heap.size 0 .i64 8 8 rfl (by omega)
    rwa [Nat.zero_add] at this
  have hs3 := fun W : World => run_behind g N c o (by omega) (by omega) W
  have C1 : Go.RowKit.Hid (∀ w', La w g l b w' → (Builtin.copy_ #[22, 22] 3 #[.slice (some ⟨g, 0, none⟩) N c, .slice (some ⟨w.heap.size, 0, none⟩) 8 16]).run Tryd.prog w' = .ok (goInt 8) (w'.setCells g 0 (nv .u8 (b.take 8)))) := Lib.hid (fun w' j => by
    have := run_copy_bytes (P := Tryd.prog) w' 22 22 3 5 Tryd.underlying22 size1_u8 g 0 N c w.heap.size 0 8 16 l (b.take 8) (Holds.at0 j.text) (by rw [e1]; show 8 = min 8 N; omega) (by rw [e1]; omega) (fun i hi => by rw [Nat.zero_add, j.who.cell i (by omega), take_get _ _ _ (by omega)])
    rwa [e1] at this)
  have C2 : Go.RowKit.Hid (∀ w' x, x.length = l.length → La w g x b w' → (Builtin.copy_ #[22, 22] 3 #[.slice (some ⟨g, o, none⟩) (N - o) (c - o), .slice (some ⟨w.heap.size, 8, none⟩) 8 8]).run Tryd.prog w' = .ok (goInt 8) (w'.setCells g o (nv .u8 (b.drop 8)))) := Lib.hid (fun w' x hx j => by
    have HP := HAt.part (Holds.at0 j.text) o 8 (by omega)
    rw [Nat.zero_add] at HP
    have := run_copy_bytes (P := Tryd.prog) w' 22 22 3 5 Tryd.underlying22 size1_u8 g o (N - o) (c - o) w.heap.size 8 8 8 _ (b.drop 8) HP (by rw [e2]; show 8 = min 8 (N - o); omega) (by rw [e2, take_len (by rw [List.length_drop]; omega)]; omega) (fun i hi => by rw [j.who.cell (8 + i) (by omega), drop_get])
    rwa [e2] at this)
  have X1 : Go.RowKit.Hid (∀ w', La w g l b w' → La w g (spl l 0 (b.take 8)) b (w'.setCells g 0 (nv .u8 (b.take 8)))) := Lib.hid (fun w' j => j.copied hg 0 _ (by rw [e1]; omega))
  have X2 : Go.RowKit.Hid (∀ w', La w g (spl l 0 (b.take 8)) b w' → La w g (ly l o b) b (w'.setCells g o (nv .u8 (b.drop 8)))) := Lib.hid (fun w' j => by rw [← HJ.out]; exact j.copied hg o _ (by rw [e2, lx]; omega))
  have LX := Lib.hid lx
  clear h HJ hN hl lx hb
  generalize spl l 0 (b.take 8) = x at *
  generalize ly l o b = y at *
  generalize b.drop 8 = m2 at *
  generalize b.take 8 = m1 at *
  go_enter Tryd.func34, Tryd.ntmps34
  go_upto_region 1 with fail
  generalize w.alloc (.cells (na .u8 b) 45) = w2 at *
  have D1 := Lib.hid (C1.out w2 J0.out)
  have J1 := Lib.hid (X1.out w2 J0.out)
  clear C1 X1 J0
  go_wp2_with (first | (with_reducible refine Arr.list_copy (.slice (some ⟨g, 0, none⟩) N c) (.slice (some ⟨w.heap.size, 0, none⟩) 8 16) _ (w2.setCells g 0 (nv .u8 m1)) rfl rfl D1.out ?_) | fail)
  generalize w2.setCells g 0 (nv .u8 m1) = w3 at *
  clear D1
  refine region_tail 4 (by kernel_rfl) (by kernel_rfl) ?_
  intro wd hwd
  have J2 : La w g x b wd := by rw [hwd]; exact J1.out.drew
  clear hwd J1
  have D2 := Lib.hid (C2.out wd x LX.out J2)
  have J3 := Lib.hid (X2.out wd J2)
  clear C2 X2 J2
  simp only [List.take_succ_cons, List.take_zero, List.drop_succ_cons, List.drop_zero]
  repeat still_step
  refine wpStill_nil ?_
  go_wp2_with (first | (with_reducible refine Arr.list_copy (.slice (some ⟨g, o, none⟩) (N - o) (c - o)) (.slice (some ⟨w.heap.size, 8, none⟩) 8 8) _ (wd.setCells g o (nv .u8 m2)) rfl rfl D2.out ?_) | fail)
  go_end0
  exact ⟨rfl, J3.out.text, J3.out.only⟩

theorem laid8 {x : Nat} {arr : Array Value} (h : Laid x 8 8 arr) : arr = na .u8 (bytesOf x 8) := laid_all h
theorem ctk_zero (b c : List Nat) (hb : b.length = 16) : ctk b c 0 = b := upto_zero _ _ _ hb
theorem ctk_succ (b c : List Nat) (k : Nat) (hk : k < 16) : ctk b c (k + 1) = (ctk b c k).set k (b.getD k 0 ^^^ c.getD k 0) := upto_succ _ _ _ _ hk

set_option maxHeartbeats 1000000 in
theorem counted_any (b : List Nat) (t : Nat) (hb : St b) (ht : t ≤ 100) (w : World) (hT : Tab w 0) :
    Calls Tryd.prog 35 #[.agg (na .u8 b), .int .i64 (t : Int)] w (GivesA (ct b t) w) := by
  obtain ⟨A1, A2, A3⟩ := two_new w b 45
  have B1 := Lib.hid A1
  have B2 := Lib.hid A2
  have B3 := Lib.hid A3
  have HB := Lib.hid hb
  have htw := hT.lt
  have HT := Lib.hid (hT.below A3 htw)
  have wt : IntKind.u64.wrap (t : Int) = (t : Int) := by rw [IntKind.wrap_u64]; omega
  have HE := Lib.hid (show ctk b (bytesOf t 8) 8 = ct b t from rfl)
  have s2 : ((w.alloc (.cells (na .u8 b) 45)).alloc (.cells (na .u8 (zs 16)) 45)).heap.size = w.heap.size + 2 := by
    rw [World.size_alloc, World.size_alloc]
  have S2 := Lib.hid s2
  clear A1 A2 A3 hb hT s2
  go_enter Tryd.func35, Tryd.ntmps35
  go_upto_region 1 with (first | (with_reducible refine Arr.alloc (t := 45) _ z16 ?_) | fail)
  generalize (w.alloc (.cells (na .u8 b) 45)).alloc (.cells (na .u8 (zs 16)) 45) = w2 at *
  have CP := Lib.hid (put64_any t w2 HT.out)
  clear HT
  go_wp2_with fail
  refine CP.out.mono ?_
  rintro e w3 ⟨arr, hla, rfl, rfl⟩
  rw [S2.out]
  obtain rfl := laid8 hla
  clear CP hla
  have D1 := Lib.hid (B1.out.alloc (.cells (na .u8 (bytesOf t 8)) 5))
  have D2 := Lib.hid (B2.out.alloc (.cells (na .u8 (bytesOf t 8)) 5))
  have D3 := Lib.hid (B3.out.alloc B3.out.size (.cells (na .u8 (bytesOf t 8)) 5))
  have D4 := Holds.new w2 5 .u8 (bytesOf t 8)
  rw [S2.out] at D4
  have D4 := Lib.hid D4
  have CB := Lib.hid (fun i => bytes_get_lt t i)
  have CL := Lib.hid (length_bytesOf t 8)
  clear B1 B2 B3 S2
  generalize bytesOf t 8 = cs at *
  generalize w2.alloc (.cells (na .u8 cs) 5) = w3 at *
  go_wp2_with fail
  go_loopw [11] (fun i wr => ∃ k : Nat, k ≤ 8 ∧ i = .int .i64 (k : Nat) ∧ Holds wr w.heap.size .u8 (ctk b cs k) ∧ Holds wr (w.heap.size + 1) .u8 (zs 16) ∧ Holds wr (w.heap.size + 2) .u8 cs ∧ Below w.heap.size w wr) (fun i _ => 8 - (intOf i).toNat)
  case atStart => exact ⟨0, by omega, rfl, by rw [ctk_zero _ _ HB.out.1]; exact D1.out, D2.out, D4.out, D3.out⟩
  case round =>
    clear D1 D2 D3 D4
    obtain ⟨k, hk, rfl, h1, h2, h4, h3⟩ := hrel
    have H1 := Lib.hid h1
    have H2 := Lib.hid h2
    have H3 := Lib.hid h3
    have H4 := Lib.hid h4
    clear h1 h2 h3 h4
    have lc := length_ctk b cs k
    by_cases hlt : k < 8
    · have tk : decide ((k : Int) < 8) = true := by simp; omega
      have HS := Lib.hid (ctk_succ b cs k (by omega))
      have hold : (ctk b cs k).getD k 0 = b.getD k 0 := by rw [ctk, upto_get _ _ _ _ _ (by omega), if_neg (by omega)]
      have c1 := H1.out.cell k (by omega)
      rw [hold] at c1
      have f1 := H1.out.frozen k (by omega)
      have c2 := H4.out.cell k (by rw [CL.out]; exact hlt)
      have hx := u8_xor_nat _ _ (HB.out.2 k) (CB.out k)
      have X1 := H1.out.set k (b.getD k 0 ^^^ cs.getD k 0) (by omega)
      rw [← HS.out] at X1
      have X2 := H2.out.beside ⟨w.heap.size, k, none⟩ (.int .u8 ((b.getD k 0 ^^^ cs.getD k 0 : Nat) : Int)) (show w.heap.size ≠ w.heap.size + 1 by omega)
      have X4 := H4.out.beside ⟨w.heap.size, k, none⟩ (.int .u8 ((b.getD k 0 ^^^ cs.getD k 0 : Nat) : Int)) (show w.heap.size ≠ w.heap.size + 2 by omega)
      have X3 := H3.out.setCell (p := ⟨w.heap.size, k, none⟩) (Nat.le_refl _) (.int .u8 ((b.getD k 0 ^^^ cs.getD k 0 : Nat) : Int))
      have X1 := Lib.hid X1
      have X2 := Lib.hid X2
      have X3 := Lib.hid X3
      have X4 := Lib.hid X4
      clear H1 H2 H3 H4 hold HS
      generalize b.getD k 0 ^^^ cs.getD k 0 = z at *
      generalize b.getD k 0 = p at *
      generalize cs.getD k 0 = q at *
      go_wp2
      go_roundw
      case rel => exact ⟨k + 1, by omega, by go_num, X1.out, X2.out, X4.out, X3.out⟩
      case measure => simp [intOf]; omega
    · obtain rfl : k = 8 := by omega
      rw [HE.out] at H1 lc
      generalize ct b t = m at *
      go_wp2_with (first | (with_reducible refine Arr.load o16 w.heap.size m lc H1.out rfl ?_) | (with_reducible refine Arr.store o16 (w.heap.size + 1) (zs 16) m (length_zs _) H2.out lc rfl rfl ?_))
      exact bodyPost_ret (v := .agg (na .u8 m)) (results_arr o16 rfl _ _ (w.heap.size + 1) m lc (H2.out.put _ (by rw [lc, length_zs])) rfl) rfl ⟨rfl, below_setCells (by omega) _ _ _ H3.out⟩
end Go.Proofs.YtonoidhlbnbhcaaDoor
