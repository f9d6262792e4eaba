/-
  Contract of hmac.filled: a key's 64 bytes. Conditions: the tables stand in their variables; the key has fewer than 2^60 bytes.
  Contract of hmac.Pads: a key's bytes, put together with both bytes. Conditions: the tables stand in their variables; the key has fewer than 2^60 bytes.
  Contract of hmac.tagged: the tag of parts under the key that has these pads. Conditions: the tables stand in their variables; the pads have 64 bytes each; the parts lie below, in their slices; they are at most 2^32 - 1, and fewer than 2^60 - 64 bytes together.
  Contract of hmac.Tag: the tag of parts under a key. Conditions: the tables stand in their variables; key and parts lie below, in their slices; the parts are at most 2^32 - 1, and fewer than 2^60 - 64 bytes together, the key has fewer than 2^60.
-/
import Derived.Test.YtihpjkidoingfaaDoorHmNum
import Derived.Test.YtihpjkidoingfaaDoorShaAwake
import Derived.Deep.RegionHeld3
import Derived.Test.YtihpjkidoingfaaDoorOwnVals
namespace Go.Proofs.YtihpjkidoingfaaDoor.Arr
open Go.RowKit
variable {P : Program} {t e : TypeId} {n : Nat} {k : IntKind}
/-- A whole array, as a slice. -/
theorem sliceW (o : Of P t e n k) (w : World) (g i : Nat) :
    (Instr.sliceAt t (.pointer (some ⟨g, i, none⟩)) none none none).run P w = .ok (.slice (some ⟨g, i, none⟩) n n) w := by
  rw [run_sliceAt_array_all w t _ o.under, o.size]
  have h0 : (⟨g, i, none⟩ : Addr).add 0 = ⟨g, i, none⟩ := by simp [Addr.add]
  simp only [Result.andThen_ok, slicedAt, o.arrayLen, Nat.zero_mul, h0, Nat.sub_zero]
  split <;> rfl
end Go.Proofs.YtihpjkidoingfaaDoor.Arr
namespace Go.Proofs.YtihpjkidoingfaaDoor
open Go.RowKit Arr Sh Hm

theorem z64b : (Tryd.prog.info? 55).bind (·.zero) = some (.agg (na .u8 (zs 64))) := by kernel_rfl
theorem info1_u8 : (Tryd.prog.info? 5).map (·.size) = some 1 := by kernel_rfl
theorem textOne (bs : List Nat) (A : Option Addr) (c : Nat) : textOf [⟨A, c, bs⟩] = bs := by simp [textOf]
/-- The two variables that filled begins with. -/
structure Fi (w w2 : World) (x : List Nat) : Prop where
  res : Holds w2 w.heap.size .u8 (zs 64)
  who : Holds w2 (w.heap.size + 1) .u8 x
  bel : Below w.heap.size w w2
theorem Fi.lt {w w2 : World} {x : List Nat} (h : Fi w w2 x) (hx : 0 < x.length) : w.heap.size + 1 < w2.heap.size := h.who.lt hx
theorem Fi.next {w w2 w3 : World} {x : List Nat} (h : Fi w w2 x) (hx : 0 < x.length) (hb : Below w2.heap.size w2 w3) : Fi w w3 x := by
  have := h.lt hx
  exact ⟨h.res.below hb (by omega), h.who.below hb this, h.bel.trans (hb.mono (by omega))⟩
theorem Fi.drew {w w2 : World} {x : List Nat} (h : Fi w w2 x) : Fi w w2.drew x := ⟨h.res.drew, h.who.drew, below_drew h.bel⟩
theorem Fi.copied {w w2 : World} (h : Fi w w2 (zs 64)) (m : List Nat) (hm : m.length ≤ 64) : Fi w (w2.setCells (w.heap.size + 1) 0 (nv .u8 m)) (spl (zs 64) 0 m) := by
  refine ⟨h.res.apart _ _ _ (by omega), ?_, below_setCells (by omega) _ _ _ h.bel⟩
  have := (Holds.at0 h.who).spliced 0 m (by rw [length_zs]; omega)
  exact this
theorem Fi.put {w w2 : World} {x : List Nat} (h : Fi w w2 x) (hx : x.length = 64) : Holds (w2.setCells w.heap.size 0 (nv .u8 x)) w.heap.size .u8 x ∧ Below w.heap.size w (w2.setCells w.heap.size 0 (nv .u8 x)) :=
  ⟨h.res.put x (by rw [hx, length_zs]), below_setCells (Nat.le_refl _) _ _ _ h.bel⟩
theorem Fi.new (w : World) : Fi w ((w.alloc (.cells (na .u8 (zs 64)) 55)).alloc (.cells (na .u8 (zs 64)) 55)) (zs 64) := by
  have s1 : (w.alloc (.cells (na .u8 (zs 64)) 55)).heap.size = w.heap.size + 1 := World.size_alloc ..
  have h2 := Holds.new (w.alloc (.cells (na .u8 (zs 64)) 55)) 55 .u8 (zs 64)
  rw [s1] at h2
  exact ⟨(Holds.new w 55 .u8 (zs 64)).alloc _, h2, (below_alloc w _).alloc (by rw [s1]; omega) _⟩

set_option maxHeartbeats 1000000 in
theorem filled_any (bs : List Nat) (A : Option Addr) (n c : Nat) (hl : bs.length = n) (hc : n ≤ c) (hn : n < 1152921504606846976) (w : World) (hv : VarsS w) (hb : Bys w w.heap.size A bs) :
    Calls Tryd.prog 34 #[.slice A n c] w (GivesB (fill bs) w) := by
  have F0 := Lib.hid (Fi.new w)
  have LF := length_fill bs
  by_cases hlong : 64 < n
  · have t1 : decide ((n : Int) > 64) = true := by simp; omega
    have t2 : decide (64 < (n : Int)) = true := by simp; omega
    have FL := Lib.hid (fill_spl_long (k := bs) (by omega))
    have LS := length_sum bs
    have CS : Go.RowKit.Hid (∀ w2, Fi w w2 (zs 64) → Calls Tryd.prog 35 #[.slice (some ⟨w2.heap.size, 0, none⟩) 1 1] (w2.alloc (.cells #[.slice A n c] 22)) (GivesB (Sh.sum bs) (w2.alloc (.cells #[.slice A n c] 22)))) := Lib.hid (fun w2 h2 => by
      have hB2 := h2.bel
      have P2 := Parts.new w2 22 [⟨A, c, bs⟩] (fun i hi => by
        obtain rfl : i = 0 := by simpa using hi
        exact ⟨by show bs.length ≤ c; omega, (hb.below hB2).more hB2.size⟩) #[.slice A n c] (by rw [← hl]; rfl)
      have := Sum_any _ (some ⟨w2.heap.size, 0, none⟩) 1 1 rfl (by omega) (by rw [textOne]; omega) _ P2 (hv.below (hB2.alloc hB2.size _) (Nat.le_refl _))
      rwa [textOne] at this)
    have hs1 := fun W : World => sliceW o64b W (w.heap.size + 1) 0
    clear hv hb hl
    generalize fill bs = fb at *
    generalize Sh.sum bs = sm at *
    go_enter Tryd.func34, Tryd.ntmps34
    go_upto_region 2 with (first | (with_reducible refine Arr.alloc (t := 55) _ z64b ?_) | fail)
    generalize (w.alloc (.cells (na .u8 (zs 64)) 55)).alloc (.cells (na .u8 (zs 64)) 55) = w2 at *
    have C2 := Lib.hid (CS.out w2 F0.out)
    have F3 := Lib.hid (F0.out.next (by rw [length_zs]; omega) (below_alloc w2 (.cells #[.slice A n c] 22)))
    clear F0 CS
    generalize hw3 : w2.alloc (.cells #[.slice A n c] 22) = w3 at *
    go_wp2_with fail
    clear hw3
    refine C2.out.mono ?_
    rintro e w4 ⟨rfl, hB4⟩
    have F4 := F3.out.next (by rw [length_zs]; omega) hB4
    have F5 := (F4.next (by rw [length_zs]; omega) (below_alloc w4 (.cells (na .u8 (zs 32)) 43)))
    have A5 := Holds.new w4 43 .u8 (zs 32)
    have A6 := A5.put sm (by rw [LS, length_zs])
    have hlt := F4.lt (by rw [length_zs]; omega)
    have F6 : Fi w ((w4.alloc (.cells (na .u8 (zs 32)) 43)).setCells w4.heap.size 0 (nv .u8 sm)) (zs 64) := ⟨F5.res.apart _ _ _ (by omega), F5.who.apart _ _ _ (by omega), below_setCells (by omega) _ _ _ F5.bel⟩
    have H5 := Lib.hid A5
    have H6 := Lib.hid A6
    have HF := Lib.hid F6
    clear F4 F5 F6 A5 A6 hB4 C2 F3
    go_upto_region 4 with (first | (with_reducible refine Arr.alloc (t := 43) _ z32 ?_) | (with_reducible refine Arr.store o32 w4.heap.size (zs 32) sm (length_zs _) H5.out LS rfl rfl ?_) | fail)
    generalize (w4.alloc (.cells (na .u8 (zs 32)) 43)).setCells w4.heap.size 0 (nv .u8 sm) = w6 at *
    clear H5
    have hs2 := fun W : World => sliceW o32 W w4.heap.size 0
    generalize w4.heap.size = g at *
    refine region_tail 2 (by kernel_rfl) (by kernel_rfl) ?_
    intro wd hwd
    have K6 : Holds wd g .u8 sm := by rw [hwd]; exact H6.out.drew
    have KF : Fi w wd (zs 64) := by rw [hwd]; exact HF.out.drew
    clear hwd H6 HF
    have CN := run_copy_bytes (P := Tryd.prog) wd 22 22 3 5 Tryd.underlying22 info1_u8 (w.heap.size + 1) 0 64 64 g 0 32 32 (zs 64) sm (Holds.at0 KF.who) (by rw [LS]; rfl) (by rw [LS, length_zs]; omega) (fun i hi => by rw [Nat.zero_add]; exact K6.cell i hi)
    have X1 := Lib.hid (KF.copied sm (by omega))
    rw [← FL.out] at X1
    have HCN := Lib.hid CN
    clear CN KF K6
    simp only [List.take_succ_cons, List.take_zero, List.drop_succ_cons, List.drop_zero]
    repeat still_step
    refine wpStill_nil ?_
    go_wp2_with (first | (with_reducible refine Arr.list_copy (.slice (some ⟨w.heap.size + 1, 0, none⟩) 64 64) (.slice (some ⟨g, 0, none⟩) 32 32) _ (wd.setCells (w.heap.size + 1) 0 (nv .u8 sm)) rfl rfl HCN.out ?_) | (with_reducible refine Arr.load o64b (w.heap.size + 1) fb LF X1.out.who rfl ?_) | (with_reducible refine Arr.store o64b w.heap.size (zs 64) fb (length_zs _) X1.out.res LF rfl rfl ?_) | fail)
    have X2 := X1.out.put LF
    exact bodyPost_ret (v := .agg (na .u8 fb)) (results_arr o64b rfl _ _ w.heap.size fb LF X2.1 rfl) rfl ⟨rfl, X2.2⟩
  · have t1 : decide ((n : Int) > 64) = false := by simp; omega
    have t2 : decide (64 < (n : Int)) = false := by simp; omega
    have FL := Lib.hid (fill_spl_short (k := bs) (by omega))
    have hs1 := fun W : World => sliceW o64b W (w.heap.size + 1) 0
    have CN : Go.RowKit.Hid (∀ w2, Fi w w2 (zs 64) → (Builtin.copy_ #[22, 22] 3 #[.slice (some ⟨w.heap.size + 1, 0, none⟩) 64 64, .slice A n c]).run Tryd.prog w2 = .ok (goInt n) (w2.setCells (w.heap.size + 1) 0 (nv .u8 bs))) := Lib.hid (fun w2 h2 => by
      rcases Nat.eq_zero_or_pos n with h0 | h0
      · have : bs = [] := List.eq_nil_of_length_eq_zero (by omega)
        subst this h0
        exact run_copy_none w2 _ _ _ 5 _ _ _ _ _ _ Tryd.underlying22 info1_u8 (by simp)
      · obtain ⟨b, off, rfl, hbl, hcell⟩ := (hb.below h2.bel).2 (by omega)
        have := run_copy_bytes (P := Tryd.prog) w2 22 22 3 5 Tryd.underlying22 info1_u8 (w.heap.size + 1) 0 64 64 b off n c (zs 64) bs (Holds.at0 h2.who) (by rw [hl]; exact (Nat.min_eq_left (by omega)).symm) (by rw [hl, length_zs]; omega) hcell
        rwa [hl] at this)
    have X1 : Go.RowKit.Hid (∀ w2, Fi w w2 (zs 64) → Fi w (w2.setCells (w.heap.size + 1) 0 (nv .u8 bs)) (fill bs)) := Lib.hid (fun w2 h2 => by
      rw [FL.out]; exact h2.copied bs (by omega))
    clear hv hb hl FL
    generalize fill bs = fb at *
    go_enter Tryd.func34, Tryd.ntmps34
    go_upto_region 2 with (first | (with_reducible refine Arr.alloc (t := 55) _ z64b ?_) | fail)
    generalize (w.alloc (.cells (na .u8 (zs 64)) 55)).alloc (.cells (na .u8 (zs 64)) 55) = w2 at *
    have C2 := Lib.hid (CN.out w2 F0.out)
    have X2 := Lib.hid (X1.out w2 F0.out)
    clear CN X1 F0
    go_wp2_with (first | (with_reducible refine Arr.list_copy (.slice (some ⟨w.heap.size + 1, 0, none⟩) 64 64) (.slice A n c) _ (w2.setCells (w.heap.size + 1) 0 (nv .u8 bs)) rfl rfl C2.out ?_) | (with_reducible refine Arr.load o64b (w.heap.size + 1) fb LF X2.out.who rfl ?_) | (with_reducible refine Arr.store o64b w.heap.size (zs 64) fb (length_zs _) X2.out.res LF rfl rfl ?_) | fail)
    have X3 := X2.out.put LF
    exact bodyPost_ret (v := .agg (na .u8 fb)) (results_arr o64b rfl _ _ w.heap.size fb LF X3.1 rfl) rfl ⟨rfl, X3.2⟩
end Go.Proofs.YtihpjkidoingfaaDoor
namespace Go.Proofs.YtihpjkidoingfaaDoor.Hm
open Arr Sh
/-- The first t of a list, noughts behind. -/
def hal (p : List Nat) (t : Nat) : List Nat := p.take t ++ zs (64 - t)
theorem length_hal (p : List Nat) (t : Nat) (hp : p.length = 64) (ht : t ≤ 64) : (hal p t).length = 64 := by rw [hal, List.length_append, length_zs, List.length_take]; omega
theorem hal_zero (p : List Nat) : hal p 0 = zs 64 := by simp [hal]
theorem hal_all (p : List Nat) (hp : p.length = 64) : hal p 64 = p := by rw [hal, List.take_of_length_le (by omega)]; simp [zs]
theorem hal_succ (p : List Nat) (t : Nat) (hp : p.length = 64) (ht : t < 64) : hal p (t + 1) = (hal p t).set t (p.getD t 0) := by
  have h1 : (p.take t).length = t := by simp; omega
  have h2 : zs (64 - t) = 0 :: zs (64 - (t + 1)) := by
    rw [zs, show 64 - t = (64 - (t + 1)) + 1 by omega]; rfl
  have h3 : p.getD t 0 = p[t] := by simp [hp, ht]
  rw [hal, hal, List.set_append_right _ _ (by omega), h1, Nat.sub_self, h2, List.set_cons_zero, List.take_succ_eq_append_getElem (by omega), List.append_assoc, h3]
  rfl
theorem hal_get (p : List Nat) (t : Nat) (hp : p.length = 64) (ht : t < 64) : (hal p t).getD t 0 = 0 := by
  have h1 : (p.take t).length = t := by simp; omega
  rw [hal, List.getD_eq_getElem?_getD, List.getElem?_append_right (by omega), h1, Nat.sub_self, ← List.getD_eq_getElem?_getD]
  exact zs_get _ _
end Go.Proofs.YtihpjkidoingfaaDoor.Hm
namespace Go.Proofs.YtihpjkidoingfaaDoor.Arr
open Go.ChangeShapes Go.WideShapes Go.ChangeAt Go.RowKit
variable {P : Program} {t e : TypeId} {n : Nat} {k : IntKind}
/-- A whole array is written, as one operation. -/
theorem step_store {ops : Array Oper} {o' : Oper} {x y : Operand} {a : Act} {w : World} {K : Act → World → Prop} {Q : Exit → Act → World → Prop} {E : Prop} (o : Of P t e n k) (hg : o'.guard = none) (g : Nat) (l m : List Nat) (hl : l.length = n) (hb : Holds w g k l) (hm : m.length = n)
    (ho : o'.op = .store t x y) (hx : a.eval x = .pointer (some ⟨g, 0, none⟩)) (hy : a.eval y = .agg (na k m)) (h : K (a.put o'.dst undef) (w.setCells g 0 (nv k m))) : if Region.wanted o' (yielded ops a.tmps) = true then Oper.wp P o' a w K Q else E := by
  have hw : Region.wanted o' (yielded ops a.tmps) = true := by simp [Region.wanted, hg]
  rw [if_pos hw]
  exact wp_store_mid t x y ho g 0 (na k m) hx hy (by rw [size_na, hm, ← hl]; exact hb.2) (by rw [size_na, hm]; exact o.hi) (all_oneCell_toArray (nv_one k m)) (by simpa [na] using h)
/-- Two arrays handed back by cells. -/
theorem results_arrs (o : Of P t e n k) {fn : Func} {p q : Tmp} (h : fn.results = #[.cell p t, .cell q t]) (tmps : Array Value) (w : World) (g g' : Nat) (l m : List Nat) (hl : l.length = n) (hm : m.length = n) (hb : Holds w g k l) (hb' : Holds w g' k m) (hp : tmps.getD p undef = .pointer (some ⟨g, 0, none⟩)) (hq : tmps.getD q undef = .pointer (some ⟨g', 0, none⟩)) :
    (results fn tmps).run P w = .ok (.tuple #[.agg (na k l), .agg (na k m)]) w := by
  have hp' : tmps[p]?.getD undef = .pointer (some ⟨g, 0, none⟩) := by simpa using hp
  have hq' : tmps[q]?.getD undef = .pointer (some ⟨g', 0, none⟩) := by simpa using hq
  have e1 := run_loadVar_mid (P := P) w g 0 t (nv k l) _ hb.1 o.hu rfl (by rw [length_nv, hl]; exact o.hi)
  have e2 := run_loadVar_mid (P := P) w g' 0 t (nv k m) _ hb'.1 o.hu rfl (by rw [length_nv, hm]; exact o.hi)
  simp [results, h, hp', hq', asAddr, e1, e2, na]
end Go.Proofs.YtihpjkidoingfaaDoor.Arr
namespace Go.Proofs.YtihpjkidoingfaaDoor
open Go.RowKit Arr Sh Hm

/-- Both results, as they are on the way. -/
structure Pd (w wr : World) (x y : List Nat) : Prop where
  one : Holds wr w.heap.size .u8 x
  two : Holds wr (w.heap.size + 1) .u8 y
  bel : Below w.heap.size w wr
theorem Pd.next {w w2 w3 : World} {x y : List Nat} (h : Pd w w2 x y) (hy : 0 < y.length) (hb : Below w2.heap.size w2 w3) : Pd w w3 x y := by
  have := h.two.lt hy
  exact ⟨h.one.below hb (by omega), h.two.below hb this, h.bel.trans (hb.mono (by omega))⟩
theorem Pd.drew {w w2 : World} {x y : List Nat} (h : Pd w w2 x y) : Pd w w2.drew x y := ⟨h.one.drew, h.two.drew, below_drew h.bel⟩
theorem Pd.set1 {w w2 : World} {x y : List Nat} (h : Pd w w2 x y) (i c : Nat) (hi : i < x.length) : Pd w (w2.setCell ⟨w.heap.size, i, none⟩ (.int .u8 (c : Int))) (x.set i c) y :=
  ⟨h.one.set i c hi, h.two.beside _ _ (show w.heap.size ≠ w.heap.size + 1 by omega), h.bel.setCell (p := ⟨w.heap.size, i, none⟩) (Nat.le_refl _) _⟩
theorem Pd.set2 {w w2 : World} {x y : List Nat} (h : Pd w w2 x y) (i c : Nat) (hi : i < y.length) : Pd w (w2.setCell ⟨w.heap.size + 1, i, none⟩ (.int .u8 (c : Int))) x (y.set i c) :=
  ⟨h.one.beside _ _ (show w.heap.size + 1 ≠ w.heap.size by omega), h.two.set i c hi, h.bel.setCell (p := ⟨w.heap.size + 1, i, none⟩) (Nat.le_succ _) _⟩
theorem Pd.put1 {w w2 : World} {x y : List Nat} (h : Pd w w2 x y) : Pd w (w2.setCells w.heap.size 0 (nv .u8 x)) x y :=
  ⟨h.one.put x rfl, h.two.apart _ _ _ (by omega), below_setCells (Nat.le_refl _) _ _ _ h.bel⟩
theorem Pd.put2 {w w2 : World} {x y : List Nat} (h : Pd w w2 x y) : Pd w (w2.setCells (w.heap.size + 1) 0 (nv .u8 y)) x y :=
  ⟨h.one.apart _ _ _ (by omega), h.two.put y rfl, below_setCells (Nat.le_succ _) _ _ _ h.bel⟩
theorem Pd.new (w : World) : Pd w ((w.alloc (.cells (na .u8 (zs 64)) 55)).alloc (.cells (na .u8 (zs 64)) 55)) (zs 64) (zs 64) := ⟨(Fi.new w).res, (Fi.new w).who, (Fi.new w).bel⟩
/-- What Pads leaves. -/
def GivesP (x y : List Nat) (w : World) (e : Ending) (w' : World) : Prop := e = .returned (.tuple #[.agg (na .u8 x), .agg (na .u8 y)]) ∧ Below w.heap.size w w'

set_option maxHeartbeats 1000000 in
theorem Pads_any (bs : List Nat) (A : Option Addr) (n c : Nat) (hl : bs.length = n) (hc : n ≤ c) (hn : n < 1152921504606846976) (w : World) (hv : VarsS w) (hb : Bys w w.heap.size A bs) :
    Calls Tryd.prog 29 #[.slice A n c] w (GivesP (inn bs) (outr bs) w) := by
  have P0 := Lib.hid (Pd.new w)
  have C0 : Go.RowKit.Hid (∀ w2, Pd w w2 (zs 64) (zs 64) → Calls Tryd.prog 34 #[.slice A n c] w2 (GivesB (fill bs) w2)) := Lib.hid (fun w2 h2 =>
    filled_any bs A n c hl hc hn w2 (hv.below h2.bel (Nat.le_refl _)) ((hb.below h2.bel).more h2.bel.size))
  have LF := length_fill bs
  have LI := length_inn bs
  have LO := length_outr bs
  have GI : Go.RowKit.Hid (∀ i, i < 64 → (inn bs).getD i 0 = (fill bs).getD i 0 ^^^ 54) := Lib.hid (fun i hi => pd_get 54 (fill bs) i (by omega))
  have GO : Go.RowKit.Hid (∀ i, i < 64 → (outr bs).getD i 0 = (fill bs).getD i 0 ^^^ 92) := Lib.hid (fun i hi => pd_get 92 (fill bs) i (by omega))
  have FB : Go.RowKit.Hid (∀ i, i < 64 → (fill bs).getD i 0 < 256) := Lib.hid (fun i hi => by
    have e : (fill bs).getD i 0 = (fill bs)[i] := by simp [LF, hi]
    rw [e]; exact fill_lt hb.1 _ (List.getElem_mem _))
  clear hv hb hl
  generalize fill bs = f at *
  generalize inn bs = x at *
  generalize outr bs = y at *
  go_enter Tryd.func29, Tryd.ntmps29
  go_upto_region 1 with (first | (with_reducible refine Arr.alloc (t := 55) _ z64b ?_) | fail)
  generalize (w.alloc (.cells (na .u8 (zs 64)) 55)).alloc (.cells (na .u8 (zs 64)) 55) = w2 at *
  have C2 := Lib.hid (C0.out w2 P0.out)
  clear C0
  go_wp2_with fail
  refine C2.out.mono ?_
  rintro e w3 ⟨rfl, hB3⟩
  have P3 := Lib.hid (P0.out.next (by rw [length_zs]; omega) hB3)
  clear P0 C2 hB3
  go_wp2_with fail
  go_loopw [8] (fun i wr => ∃ t : Nat, t ≤ 64 ∧ i = .int .i64 (t : Nat) ∧ Pd w wr (hal x t) (hal y t)) (fun i _ => 64 - (intOf i).toNat)
  case atStart => exact ⟨0, by omega, rfl, by rw [hal_zero, hal_zero]; exact P3.out⟩
  case round =>
    clear P3
    obtain ⟨t, ht, rfl, hp⟩ := hrel
    by_cases hlt : t < 64
    · have tt : decide ((t : Int) < 64) = true := by simp; omega
      have ti : (t : Int) < 64 := by omega
      have hix : ∀ W : World, (Instr.index 55 (.agg (na .u8 f)) (.int .i64 (t : Int))).run Tryd.prog W = .ok (.int .u8 ((f.getD t 0 : Nat) : Int)) W := fun W => Arr.index o64b W f LF .i64 t hlt
      have hx1 : bits .xor .u8 ((f.getD t 0 : Nat) : Int) (54 : Int) = ((x.getD t 0 : Nat) : Int) := by
        rw [GI.out t hlt]; exact u8_xor_nat _ 54 (FB.out t hlt) (by omega)
      have hx2 : bits .xor .u8 ((f.getD t 0 : Nat) : Int) (92 : Int) = ((y.getD t 0 : Nat) : Int) := by
        rw [GO.out t hlt]; exact u8_xor_nat _ 92 (FB.out t hlt) (by omega)
      have l1 := length_hal x t LI (by omega)
      have l2 := length_hal y t LO (by omega)
      have c1 := hp.one.cell t (by omega)
      have f1 := hp.one.frozen t (by omega)
      rw [hal_get x t LI hlt] at c1
      have s1 := hp.set1 t (x.getD t 0) (by omega)
      rw [← hal_succ x t LI hlt] at s1
      have c2 := s1.two.cell t (by omega)
      have f2 := s1.two.frozen t (by omega)
      rw [hal_get y t LO hlt] at c2
      have s2 := s1.set2 t (y.getD t 0) (by omega)
      rw [← hal_succ y t LO hlt] at s2
      have S2 := Lib.hid s2
      clear s1 s2 l1 l2 hp
      generalize f.getD t 0 = q at *
      generalize x.getD t 0 = q1 at *
      generalize y.getD t 0 = q2 at *
      go_wp2
      go_roundw
      case rel => exact ⟨t + 1, by omega, by go_num, S2.out⟩
      case measure => simp [intOf]; omega
    · have et : (t : Int) = 64 := by omega
      obtain rfl : t = 64 := by omega
      clear et
      rw [hal_all x LI, hal_all y LO] at hp
      have HP := Lib.hid hp
      clear hp
      go_wp2_with fail
      have ST := Lib.hid HP.out.drew
      have Lx : (Tryd.prog.info? 55).map (·.size) = some (nv .u8 x).length := by rw [length_nv, LI]; exact o64b.hi
      have Ly : (Tryd.prog.info? 55).map (·.size) = some (nv .u8 y).length := by rw [length_nv, LO]; exact o64b.hi
      refine wp_region_held_drew (S := fun W => Pd w W x y) (by kernel_rfl) ST.out (fun hHeld => ?_)
      clear ST HP
      generalize wr.drew = wq at *
      refine' wpAnyH_take (i := 0) (v := _) rfl (by kernel_rfl) (by kernel_rfl) (by kernel_rfl) (fun _ _ _ h => h) (yieldsIf_load_mid (by rfl) _ _ rfl _ _ rfl _ _ (fun _ hs => hs.one.1) o64b.hu rfl Lx) (by assumption) ?_
      try simp only [List.getElem_toArray, List.getElem_cons_zero, Act.put, List.setIfInBounds_toArray, List.set_cons_zero, List.set_cons_succ]
      refine' wpAnyH_take (i := 1) (v := _) rfl (by kernel_rfl) (by kernel_rfl) (by kernel_rfl) (fun _ _ _ h => h) (yieldsIf_load_mid (by rfl) _ _ rfl _ _ rfl _ _ (fun _ hs => hs.two.1) o64b.hu rfl Ly) (by assumption) ?_
      try simp only [List.getElem_toArray, List.getElem_cons_zero, List.getElem_cons_succ, Act.put, List.setIfInBounds_toArray, List.set_cons_zero, List.set_cons_succ]
      refine wpAnyH_ready (rs := [2]) (by kernel_rfl) (by simp) (AllReadyH.cons rfl (fun K hK => ?_) AllReadyH.nil)
      refine step_store o64b rfl w.heap.size x x LI hHeld.one LI (x := .tmp 2) (y := .tmp 21) rfl rfl rfl ?_
      refine hK.out _ _ hHeld.put1 (fun hHeld2 => ?_)
      clear hHeld hK K; have hHeld := hHeld2; clear hHeld2
      try simp only [List.getElem_toArray, List.getElem_cons_zero, List.getElem_cons_succ, Act.put]
      refine wpAnyH_ready (rs := [3]) (by kernel_rfl) (by simp) (AllReadyH.cons rfl (fun K hK => ?_) AllReadyH.nil)
      refine step_store o64b rfl (w.heap.size + 1) y y LO hHeld.two LO (x := .tmp 3) (y := .tmp 22) rfl rfl rfl ?_
      refine hK.out _ _ hHeld.put2 (fun hHeld2 => ?_)
      clear hHeld hK K; have hHeld := hHeld2; clear hHeld2
      try simp only [List.getElem_toArray, List.getElem_cons_zero, List.getElem_cons_succ, Act.put]
      refine wpAnyH_done (by kernel_rfl) ?_ _
      have HE := Lib.hid hHeld
      clear hHeld
      go_wp2
      exact bodyPost_ret (v := .tuple #[.agg (na .u8 x), .agg (na .u8 y)]) (results_arrs o64b rfl _ _ w.heap.size (w.heap.size + 1) x y LI LO HE.out.one HE.out.two rfl rfl) rfl ⟨rfl, HE.out.bel⟩
end Go.Proofs.YtihpjkidoingfaaDoor
namespace Go.Proofs.YtihpjkidoingfaaDoor
open Go.RowKit Arr Sh Hm

/-- The pads and the result, as they lie. -/
structure Tg (w w2 : World) (i o : List Nat) : Prop where
  bi : Holds w2 w.heap.size .u8 i
  bo : Holds w2 (w.heap.size + 1) .u8 o
  res : Holds w2 (w.heap.size + 1 + 1) .u8 (zs 32)
  bel : Below w.heap.size w w2
section
variable {w w2 w3 : World} {i o : List Nat}
theorem Tg.lt (h : Tg w w2 i o) : w.heap.size + 1 + 1 < w2.heap.size := h.res.lt (by rw [length_zs]; omega)
theorem Tg.next (h : Tg w w2 i o) {B : Nat} (hB : w.heap.size + 1 + 1 < B) (hb : Below B w2 w3) : Tg w w3 i o := by
  exact ⟨h.bi.below hb (by omega), h.bo.below hb (by omega), h.res.below hb (by omega), h.bel.trans (hb.mono (by omega))⟩
theorem Tg.drew (h : Tg w w2 i o) : Tg w w2.drew i o := ⟨h.bi.drew, h.bo.drew, h.res.drew, below_drew h.bel⟩
theorem Tg.apart (h : Tg w w2 i o) (g : Nat) (vs : List Value) (hg : w.heap.size + 1 + 1 < g) : Tg w (w2.setCells g 0 vs) i o :=
  ⟨h.bi.apart _ _ _ (by omega), h.bo.apart _ _ _ (by omega), h.res.apart _ _ _ (by omega), below_setCells (by omega) _ _ _ h.bel⟩
end
theorem Tg.new (w : World) (i o : List Nat) : Tg w (((w.alloc (.cells (na .u8 i) 55)).alloc (.cells (na .u8 o) 55)).alloc (.cells (na .u8 (zs 32)) 43)) i o := by
  have s1 : (w.alloc (.cells (na .u8 i) 55)).heap.size = w.heap.size + 1 := World.size_alloc ..
  have s2 : ((w.alloc (.cells (na .u8 i) 55)).alloc (.cells (na .u8 o) 55)).heap.size = w.heap.size + 1 + 1 := by rw [World.size_alloc, s1]
  have B1 := ((Holds.new w 55 .u8 i).alloc (.cells (na .u8 o) 55)).alloc (.cells (na .u8 (zs 32)) 43)
  have B2 := (Holds.new (w.alloc (.cells (na .u8 i) 55)) 55 .u8 o).alloc (.cells (na .u8 (zs 32)) 43)
  have B3 := Holds.new ((w.alloc (.cells (na .u8 i) 55)).alloc (.cells (na .u8 o) 55)) 43 .u8 (zs 32)
  rw [s1] at B2
  rw [s2] at B3
  exact ⟨B1, B2, B3, ((below_alloc w _).alloc (by rw [s1]; omega) _).alloc (by rw [s2]; omega) _⟩

set_option maxHeartbeats 1000000 in
theorem tagged_any (i o : List Nat) (hi : i.length = 64) (ho : o.length = 64) (hib : ∀ x, x ∈ i → x < 256) (hob : ∀ x, x ∈ o → x < 256) (ps : List Pt) (A : Option Addr) (N c : Nat) (hN : ps.length = N) (hAc : A = none → c = 0) (hN2 : N < 4294967296) (hT : (textOf ps).length + 64 < 1152921504606846976)
    (w : World) (hp : Parts w w.heap.size A ps) (hv : VarsS w) :
    Calls Tryd.prog 30 #[.agg (na .u8 i), .agg (na .u8 o), .slice A N c] w (GivesB (tagP i o (textOf ps)) w) := by
  have T0 := Lib.hid (Tg.new w i o)
  have hmk : Go.RowKit.Hid (∀ W : World, ∃ arr : Array Value, arr.size = N + 1 ∧ (Instr.makeSlice 23 (.int .i64 0) (.int .i64 (1 + (N : Int)))).run Tryd.prog W = .ok (.slice (some ⟨W.heap.size, 0, none⟩) 0 (N + 1)) (W.alloc (.cells arr 22))) := Lib.hid (fun W => by
    obtain ⟨i0, h1, hz0, hz1, hz2⟩ := info_parts info_bytes
    have hr := run_make (P := Tryd.prog) W 23 22 i0 (.slice none 0 0) Tryd.underlying23 h1 hz0 .i64 .i64 0 (1 + (N : Int)) (by omega) (by omega) (by rw [hz2]; omega) (by omega)
    have e1 : (1 + (N : Int)).toNat = N + 1 := by omega
    rw [e1, hz1] at hr
    exact ⟨_, by rw [size_madeCells]; omega, hr⟩)
  have wN : IntKind.i64.wrap (1 + (N : Int)) = 1 + (N : Int) := by rw [IntKind.wrap_i64]; omega
  have hs1 := fun W : World => sliceW o64b W w.heap.size 0
  have hs2 := fun W : World => sliceW o64b W (w.heap.size + 1) 0
  have LS := length_sum (o ++ Sh.sum (i ++ textOf ps))
  have LI := length_sum (i ++ textOf ps)
  have HN := Lib.hid hN
  have HT := Lib.hid hT
  have HV := Lib.hid hv
  have HP := Lib.hid hp
  have SB := Lib.hid (sum_lt (i ++ textOf ps))
  have HTP : Go.RowKit.Hid (tagP i o (textOf ps) = Sh.sum (o ++ Sh.sum (i ++ textOf ps))) := Lib.hid rfl
  clear hN hT hv hp
  go_enter Tryd.func30, Tryd.ntmps30
  go_upto_region 1 with (first | (with_reducible refine Arr.alloc (t := 43) _ z32 ?_) | fail)
  generalize ((w.alloc (.cells (na .u8 i) 55)).alloc (.cells (na .u8 o) 55)).alloc (.cells (na .u8 (zs 32)) 43) = w1 at *
  obtain ⟨arr, harr, hm1⟩ := hmk.out w1
  have O1 : Go.RowKit.Hid ((w1.alloc (.cells arr 22)).ownsRow w1.heap.size 22 1 (.slice (some ⟨w1.heap.size, 0, none⟩) 0 (N + 1)) 0 []) := Lib.hid (World.ownsRow_made w1 arr (N + 1) (Nat.le_refl _) (by unfold maxLen; omega) (by omega))
  have B1 := Lib.hid (below_alloc w1 (.cells arr 22))
  have hlt := T0.out.lt
  have T1 := Lib.hid (T0.out.next hlt (below_alloc w1 (.cells arr 22)))
  clear hmk harr T0
  go_upto_region 2 with fail
  generalize w1.alloc (.cells arr 22) = w2 at *
  have hs12 := B1.out.size
  clear hm1
  go_upto_region 3 with (at_builtin; refine append_one rfl (.tmp 13) (.tmp 15) 23 rfl w1.heap.size 22 (.slice none 0 0) 24 Tryd.underlying23 info_bytes rfl (.slice (some ⟨w1.heap.size, 0, none⟩) 0 (N + 1)) 0 [] (.slice (some ⟨w.heap.size, 0, none⟩) 64 64) rfl O1.out rfl rfl (by omega) (by omega) hs12 ?_; intro v3 w3 hown3 hbel3)
  rw [Nat.zero_add, List.nil_append] at hown3
  have O3 := Lib.hid hown3
  have B3 := Lib.hid (B1.out.trans hbel3)
  have T3 := Lib.hid (T1.out.next hlt hbel3)
  have hs13 := B3.out.size
  have P3 := Lib.hid (HP.out.below T3.out.bel)
  clear hown3 hbel3 O1 B1 T1 hs12
  go_upto_region 4 with (at_builtin; refine append_vals rfl (.tmp 17) (.tmp 18) 23 rfl w1.heap.size 22 (.slice none 0 0) 24 Tryd.underlying23 info_bytes rfl (by omega) v3 1 [.slice (some ⟨w.heap.size, 0, none⟩) 64 64] rfl O3.out A N c (hdsV ps) rfl hAc (by rw [length_hdsV]; exact HN.out) (hdsV_one ps) P3.out.cells (by omega) hs13 ?_; intro v4 w4 hown4 hbel4)
  have T4 := T3.out.next hlt hbel4
  have hs14 := Nat.le_trans hs13 hbel4.size
  have hI4 := bys_of_holds T4.bi hib
  have hO4 : w4.ownsRow w1.heap.size 22 1 v4 (1 + N) (hdsV (⟨some ⟨w.heap.size, 0, none⟩, 64, i⟩ :: ps)) := by
    have e : hdsV (⟨some ⟨w.heap.size, 0, none⟩, 64, i⟩ :: ps) = [.slice (some ⟨w.heap.size, 0, none⟩) 64 64] ++ hdsV ps := by
      show _ :: _ = _; rw [← hi]; rfl
    rw [e]; exact hown4
  have hP4 := P3.out.below (show Below w.heap.size w3 w4 from hbel4.mono (by omega))
  obtain ⟨A4, c4, rfl, hN4, hAc4, hPt4⟩ := Parts.of_owns hO4 (fun j hj => by
    match j, hj with
    | 0, _ => exact ⟨by show i.length ≤ 64; omega, hI4⟩
    | j + 1, hj => exact ⟨(hP4.each j (by simpa using hj)).1, ((hP4.each j (by simpa using hj)).2).more (by omega)⟩)
  have C4 := Sum_any _ A4 (1 + N) c4 hN4 (by omega) (by rw [textOf_cons, List.length_append]; show i.length + _ < _; have := HT.out; omega) w4 hPt4 (HV.out.below T4.bel (Nat.le_refl _))
  rw [textOf_cons] at C4
  have HC4 := Lib.hid C4
  have HT4 := Lib.hid T4
  clear C4 hPt4 hP4 hO4 hI4 hown4 hbel4 T4 O3 B3 T3 P3 HN hN4 HP
  generalize Sh.sum (i ++ textOf ps) = is at *
  go_wp2_with fail
  refine HC4.out.mono ?_
  rintro e w5 ⟨rfl, hB5⟩
  have T5 := HT4.out.next (Nat.lt_of_lt_of_le hlt hs14) hB5
  have hlt5 := T5.lt
  have A5 := Holds.new w5 43 .u8 (zs 32)
  have A6 := A5.put is (by rw [LI, length_zs])
  have T6 := (T5.next hlt5 (below_alloc w5 (.cells (na .u8 (zs 32)) 43))).apart w5.heap.size (nv .u8 is) (by omega)
  have H5 := Lib.hid A5
  have H6 := Lib.hid A6
  have HT6 := Lib.hid T6
  clear A5 A6 T5 T6 hB5 HC4 HT4
  go_upto_region 5 with (first | (with_reducible refine Arr.alloc (t := 43) _ z32 ?_) | (with_reducible refine Arr.store o32 w5.heap.size (zs 32) is (length_zs _) H5.out LI rfl rfl ?_) | fail)
  generalize (w5.alloc (.cells (na .u8 (zs 32)) 43)).setCells w5.heap.size 0 (nv .u8 is) = w6 at *
  clear H5
  have hs3 := fun W : World => sliceW o32 W w5.heap.size 0
  generalize w5.heap.size = g at *
  refine region_tail 2 (by kernel_rfl) (by kernel_rfl) ?_
  intro wd hwd
  have K6 : Holds wd g .u8 is := by rw [hwd]; exact H6.out.drew
  have KT : Tg w wd i o := by rw [hwd]; exact HT6.out.drew
  clear hwd H6 HT6
  have hPn := Parts.new wd 22 [⟨some ⟨w.heap.size + 1, 0, none⟩, 64, o⟩, ⟨some ⟨g, 0, none⟩, 32, is⟩] (fun j hj => by
    match j, hj with
    | 0, _ => exact ⟨by show o.length ≤ 64; omega, bys_of_holds KT.bo hob⟩
    | 1, _ => exact ⟨by show is.length ≤ 32; omega, bys_of_holds K6 SB.out⟩) #[.slice (some ⟨w.heap.size + 1, 0, none⟩) 64 64, .slice (some ⟨g, 0, none⟩) 32 32] (by
      show _ = (List.toArray [Value.slice _ o.length 64, Value.slice _ is.length 32]); rw [ho, LI])
  have TX : textOf [⟨some ⟨w.heap.size + 1, 0, none⟩, 64, o⟩, ⟨some ⟨g, 0, none⟩, 32, is⟩] = o ++ is := by simp [textOf]
  have hltd := KT.lt
  have KTn := KT.next hltd (below_alloc wd (.cells #[.slice (some ⟨w.heap.size + 1, 0, none⟩) 64 64, .slice (some ⟨g, 0, none⟩) 32 32] 22))
  have C7 := Sum_any _ (some ⟨wd.heap.size, 0, none⟩) 2 2 rfl (by omega) (by rw [TX, List.length_append]; omega) _ hPn (HV.out.below KTn.bel (Nat.le_refl _))
  rw [TX] at C7
  have HC7 := Lib.hid C7
  have HK7 := Lib.hid KTn
  clear C7 KTn KT K6 hPn TX
  generalize Sh.sum (o ++ is) = sm at *
  simp only [List.take_succ_cons, List.take_zero, List.drop_succ_cons, List.drop_zero]
  repeat still_step
  refine wpStill_nil ?_
  go_wp2_with fail
  refine HC7.out.mono ?_
  rintro e w8 ⟨rfl, hB8⟩
  have T8 := HK7.out.next HK7.out.lt hB8
  have H8 := Lib.hid T8
  have F1 := Lib.hid (T8.res.put sm (by rw [LS, length_zs]))
  have F2 := Lib.hid (below_setCells (b := w.heap.size + 1 + 1) (by omega) (nv .u8 sm) 0 _ T8.bel)
  clear T8 hB8 HC7 HK7
  go_wp2_with (first | (with_reducible refine Arr.store o32 (w.heap.size + 1 + 1) (zs 32) sm (length_zs _) H8.out.res LS rfl rfl ?_) | fail)
  exact bodyPost_ret (v := .agg (na .u8 sm)) (results_arr o32 rfl _ _ (w.heap.size + 1 + 1) sm LS F1.out rfl) rfl ⟨by rw [HTP.out], F2.out⟩
end Go.Proofs.YtihpjkidoingfaaDoor
namespace Go.Proofs.YtihpjkidoingfaaDoor
open Go.RowKit Arr Sh Hm

/-- Both pads, laid behind what was there. -/
theorem pads_laid {w w2 : World} (hB : Below w.heap.size w w2) (x y : List Nat) (hx : x.length = 64) (hy : y.length = 64) :
    Holds (w2.alloc (.cells (na .u8 (zs 64)) 55)) w2.heap.size .u8 (zs 64) ∧
    Holds (((w2.alloc (.cells (na .u8 (zs 64)) 55)).alloc (.cells (na .u8 (zs 64)) 55))) w2.heap.size .u8 (zs 64) ∧
    Holds (((w2.alloc (.cells (na .u8 (zs 64)) 55)).alloc (.cells (na .u8 (zs 64)) 55)).setCells w2.heap.size 0 (nv .u8 x)) (w2.heap.size + 1) .u8 (zs 64) ∧
    Pd w2 ((((w2.alloc (.cells (na .u8 (zs 64)) 55)).alloc (.cells (na .u8 (zs 64)) 55)).setCells w2.heap.size 0 (nv .u8 x)).setCells (w2.heap.size + 1) 0 (nv .u8 y)) x y ∧
    Below w.heap.size w ((((w2.alloc (.cells (na .u8 (zs 64)) 55)).alloc (.cells (na .u8 (zs 64)) 55)).setCells w2.heap.size 0 (nv .u8 x)).setCells (w2.heap.size + 1) 0 (nv .u8 y)) := by
  have P := Pd.new w2
  have h1 := P.one.put x (by rw [hx, length_zs])
  have h2 := P.two.apart w2.heap.size 0 (nv .u8 x) (by omega)
  have b1 := below_setCells (b := w2.heap.size) (Nat.le_refl _) (nv .u8 x) 0 _ P.bel
  have h3 := h1.apart (w2.heap.size + 1) 0 (nv .u8 y) (by omega)
  have h4 := h2.put y (by rw [hy, length_zs])
  have b2 := below_setCells (b := w2.heap.size + 1) (Nat.le_succ _) (nv .u8 y) 0 _ b1
  exact ⟨Holds.new _ _ _ _, P.one, h2, ⟨h3, h4, b2⟩, hB.trans (b2.mono hB.size)⟩

set_option maxHeartbeats 1000000 in
theorem Tag_any (bs : List Nat) (K : Option Addr) (n d : Nat) (hl : bs.length = n) (hd : n ≤ d) (hn : n < 1152921504606846976) (ps : List Pt) (A : Option Addr) (N c : Nat) (hN : ps.length = N) (hAc : A = none → c = 0) (hN2 : N < 4294967296) (hT : (textOf ps).length + 64 < 1152921504606846976)
    (w : World) (hb : Bys w w.heap.size K bs) (hp : Parts w w.heap.size A ps) (hv : VarsS w) :
    Calls Tryd.prog 22 #[.slice K n d, .slice A N c] w (GivesB (tag bs (textOf ps)) w) := by
  have s1 : (w.alloc (.cells (na .u8 (zs 32)) 43)).heap.size = w.heap.size + 1 := World.size_alloc ..
  have b1 := below_alloc w (.cells (na .u8 (zs 32)) 43)
  have R1 := Lib.hid (Holds.new w 43 .u8 (zs 32))
  have C1 := Lib.hid (Pads_any bs K n d hl hd hn (w.alloc (.cells (na .u8 (zs 32)) 43)) (hv.below b1 (Nat.le_refl _)) ((hb.below b1).more b1.size))
  have LI := length_inn bs
  have LO := length_outr bs
  have IB := Lib.hid (inn_lt hb.1)
  have OB := Lib.hid (outr_lt hb.1)
  have HV := Lib.hid hv
  have HP := Lib.hid hp
  have LT : (tag bs (textOf ps)).length = 32 := length_tag _ _
  have S1 := Lib.hid s1
  have B1 := Lib.hid b1
  have CT : Go.RowKit.Hid (∀ w', Below w.heap.size w w' → Calls Tryd.prog 30 #[.agg (na .u8 (inn bs)), .agg (na .u8 (outr bs)), .slice A N c] w' (GivesB (tag bs (textOf ps)) w')) := Lib.hid (fun w' hB =>
    tagged_any (inn bs) (outr bs) LI LO IB.out OB.out ps A N c hN hAc hN2 hT w' (hp.later hB) (hv.below hB (Nat.le_refl _)))
  clear s1 b1 hv hp hb hl hN hT IB OB
  generalize tag bs (textOf ps) = tg at *
  generalize inn bs = x at *
  generalize outr bs = y at *
  go_enter Tryd.func22, Tryd.ntmps22
  go_upto_region 1 with (first | (with_reducible refine Arr.alloc (t := 43) _ z32 ?_) | fail)
  generalize w.alloc (.cells (na .u8 (zs 32)) 43) = w1 at *
  go_wp2_with fail
  refine C1.out.mono ?_
  rintro e w2 ⟨rfl, hB2⟩
  have hlt := S1.out
  have B2 : Below w.heap.size w w2 := B1.out.trans (hB2.mono B1.out.size)
  have hs2 := hB2.size
  have PL := pads_laid B2 x y LI LO
  have r2 := R1.out.below hB2 (by omega)
  have R3 := Lib.hid ((r2.below PL.2.2.2.1.bel (by omega)))
  have P1 := Lib.hid PL.2.1
  have P3 := Lib.hid PL.2.2.2.1
  have P4 := Lib.hid PL.2.2.2.2
  have X2 : (w2.alloc (.cells (na .u8 (zs 64)) 55)).heap.size = w2.heap.size + 1 := World.size_alloc ..
  have P2 := Lib.hid (show Holds (((w2.alloc (.cells (na .u8 (zs 64)) 55)).alloc (.cells (na .u8 (zs 64)) 55)).setCells w2.heap.size 0 (nv .u8 x)) (w2.alloc (.cells (na .u8 (zs 64)) 55)).heap.size .u8 (zs 64) by rw [X2]; exact PL.2.2.1)
  clear PL r2 hB2 B2 C1 R1 B1
  go_upto_region 2 with (first | (with_reducible refine Arr.alloc (t := 55) _ z64b ?_) | (with_reducible refine Arr.store o64b w2.heap.size (zs 64) x (length_zs _) P1.out LI rfl rfl ?_) | (with_reducible refine Arr.store o64b (w2.alloc (.cells (na .u8 (zs 64)) 55)).heap.size (zs 64) y (length_zs _) P2.out LO rfl rfl ?_) | fail)
  rw [X2]
  generalize ((((w2.alloc (.cells (na .u8 (zs 64)) 55)).alloc (.cells (na .u8 (zs 64)) 55)).setCells w2.heap.size 0 (nv .u8 x)).setCells (w2.heap.size + 1) 0 (nv .u8 y)) = w3 at *
  have C3 := Lib.hid (CT.out w3 P4.out)
  have hw3 := P3.out.bel.size
  clear P1 P2 CT X2
  go_wp2_with (first | (with_reducible refine Arr.load o64b w2.heap.size x LI P3.out.one rfl ?_) | (with_reducible refine Arr.load o64b (w2.heap.size + 1) y LO P3.out.two rfl ?_) | fail)
  refine C3.out.mono ?_
  rintro e w4 ⟨rfl, hB4⟩
  have r4 := R3.out.below hB4 (by omega)
  have R4 := Lib.hid r4
  have F1 := Lib.hid (r4.put tg (by rw [LT, length_zs]))
  have F2 := Lib.hid (below_setCells (b := w.heap.size) (Nat.le_refl _) (nv .u8 tg) 0 _ (P4.out.trans (hB4.mono P4.out.size)))
  clear r4 hB4 C3 R3 P3 P4
  go_wp2_with (first | (with_reducible refine Arr.store o32 w.heap.size (zs 32) tg (length_zs _) R4.out LT rfl rfl ?_) | fail)
  exact bodyPost_ret (v := .agg (na .u8 tg)) (results_arr o32 rfl _ _ w.heap.size tg LT F1.out rfl) rfl ⟨rfl, F2.out⟩
end Go.Proofs.YtihpjkidoingfaaDoor
