/-
  Contract of hmac.Pads: a key's bytes, put together with both bytes. Conditions: the tables stand in their variables; the key has fewer than 2^60 bytes.
-/
import Derived.Test.YtdfbhgajomdeeaaDoorHmFill
import Derived.Deep.RegionHeld3
namespace Go.Proofs.YtdfbhgajomdeeaaDoor.Hm
open Arr Sh
/-- The first t of a list, noughts behind. -/
def hal (p : List Nat) (t : Nat) : List Nat := p.take t ++ zs (64 - t)
theorem length_hal (p : List Nat) (t : Nat) (hp : p.length = 64) (ht : t ≤ 64) : (hal p t).length = 64 := by rw [hal, List.length_append, length_zs, List.length_take]; omega
theorem hal_zero (p : List Nat) : hal p 0 = zs 64 := by simp [hal]
theorem hal_all (p : List Nat) (hp : p.length = 64) : hal p 64 = p := by rw [hal, List.take_of_length_le (by omega)]; simp [zs]
theorem hal_succ (p : List Nat) (t : Nat) (hp : p.length = 64) (ht : t < 64) : hal p (t + 1) = (hal p t).set t (p.getD t 0) := by
  have h1 : (p.take t).length = t := by simp; omega
  have h2 : zs (64 - t) = 0 :: zs (64 - (t + 1)) := by
    rw [zs, show 64 - t = (64 - (t + 1)) + 1 by omega]; rfl
  have h3 : p.getD t 0 = p[t] := by simp [hp, ht]
  rw [hal, hal, List.set_append_right _ _ (by omega), h1, Nat.sub_self, h2, List.set_cons_zero, List.take_succ_eq_append_getElem (by omega), List.append_assoc, h3]
  rfl
theorem hal_get (p : List Nat) (t : Nat) (hp : p.length = 64) (ht : t < 64) : (hal p t).getD t 0 = 0 := by
  have h1 : (p.take t).length = t := by simp; omega
  rw [hal, List.getD_eq_getElem?_getD, List.getElem?_append_right (by omega), h1, Nat.sub_self, ← List.getD_eq_getElem?_getD]
  exact zs_get _ _
end Go.Proofs.YtdfbhgajomdeeaaDoor.Hm
namespace Go.Proofs.YtdfbhgajomdeeaaDoor.Arr
open Go.ChangeShapes Go.WideShapes Go.ChangeAt Go.RowKit
variable {P : Program} {t e : TypeId} {n : Nat} {k : IntKind}
/-- A whole array is written, as one operation. -/
theorem step_store {ops : Array Oper} {o' : Oper} {x y : Operand} {a : Act} {w : World} {K : Act → World → Prop} {Q : Exit → Act → World → Prop} {E : Prop} (o : Of P t e n k) (hg : o'.guard = none) (g : Nat) (l m : List Nat) (hl : l.length = n) (hb : Holds w g k l) (hm : m.length = n)
    (ho : o'.op = .store t x y) (hx : a.eval x = .pointer (some ⟨g, 0, none⟩)) (hy : a.eval y = .agg (na k m)) (h : K (a.put o'.dst undef) (w.setCells g 0 (nv k m))) : if Region.wanted o' (yielded ops a.tmps) = true then Oper.wp P o' a w K Q else E := by
  have hw : Region.wanted o' (yielded ops a.tmps) = true := by simp [Region.wanted, hg]
  rw [if_pos hw]
  exact wp_store_mid t x y ho g 0 (na k m) hx hy (by rw [size_na, hm, ← hl]; exact hb.2) (by rw [size_na, hm]; exact o.hi) (all_oneCell_toArray (nv_one k m)) (by simpa [na] using h)
/-- Two arrays handed back by cells. -/
theorem results_arrs (o : Of P t e n k) {fn : Func} {p q : Tmp} (h : fn.results = #[.cell p t, .cell q t]) (tmps : Array Value) (w : World) (g g' : Nat) (l m : List Nat) (hl : l.length = n) (hm : m.length = n) (hb : Holds w g k l) (hb' : Holds w g' k m) (hp : tmps.getD p undef = .pointer (some ⟨g, 0, none⟩)) (hq : tmps.getD q undef = .pointer (some ⟨g', 0, none⟩)) :
    (results fn tmps).run P w = .ok (.tuple #[.agg (na k l), .agg (na k m)]) w := by
  have hp' : tmps[p]?.getD undef = .pointer (some ⟨g, 0, none⟩) := by simpa using hp
  have hq' : tmps[q]?.getD undef = .pointer (some ⟨g', 0, none⟩) := by simpa using hq
  have e1 := run_loadVar_mid (P := P) w g 0 t (nv k l) _ hb.1 o.hu rfl (by rw [length_nv, hl]; exact o.hi)
  have e2 := run_loadVar_mid (P := P) w g' 0 t (nv k m) _ hb'.1 o.hu rfl (by rw [length_nv, hm]; exact o.hi)
  simp [results, h, hp', hq', asAddr, e1, e2, na]
end Go.Proofs.YtdfbhgajomdeeaaDoor.Arr
namespace Go.Proofs.YtdfbhgajomdeeaaDoor
open Go.RowKit Arr Sh Hm

/-- Both results, as they are on the way. -/
structure Pd (w wr : World) (x y : List Nat) : Prop where
  one : Holds wr w.heap.size .u8 x
  two : Holds wr (w.heap.size + 1) .u8 y
  bel : Below w.heap.size w wr
theorem Pd.next {w w2 w3 : World} {x y : List Nat} (h : Pd w w2 x y) (hy : 0 < y.length) (hb : Below w2.heap.size w2 w3) : Pd w w3 x y := by
  have := h.two.lt hy
  exact ⟨h.one.below hb (by omega), h.two.below hb this, h.bel.trans (hb.mono (by omega))⟩
theorem Pd.drew {w w2 : World} {x y : List Nat} (h : Pd w w2 x y) : Pd w w2.drew x y := ⟨h.one.drew, h.two.drew, below_drew h.bel⟩
theorem Pd.set1 {w w2 : World} {x y : List Nat} (h : Pd w w2 x y) (i c : Nat) (hi : i < x.length) : Pd w (w2.setCell ⟨w.heap.size, i, none⟩ (.int .u8 (c : Int))) (x.set i c) y :=
  ⟨h.one.set i c hi, h.two.beside _ _ (show w.heap.size ≠ w.heap.size + 1 by omega), h.bel.setCell (p := ⟨w.heap.size, i, none⟩) (Nat.le_refl _) _⟩
theorem Pd.set2 {w w2 : World} {x y : List Nat} (h : Pd w w2 x y) (i c : Nat) (hi : i < y.length) : Pd w (w2.setCell ⟨w.heap.size + 1, i, none⟩ (.int .u8 (c : Int))) x (y.set i c) :=
  ⟨h.one.beside _ _ (show w.heap.size + 1 ≠ w.heap.size by omega), h.two.set i c hi, h.bel.setCell (p := ⟨w.heap.size + 1, i, none⟩) (Nat.le_succ _) _⟩
theorem Pd.put1 {w w2 : World} {x y : List Nat} (h : Pd w w2 x y) : Pd w (w2.setCells w.heap.size 0 (nv .u8 x)) x y :=
  ⟨h.one.put x rfl, h.two.apart _ _ _ (by omega), below_setCells (Nat.le_refl _) _ _ _ h.bel⟩
theorem Pd.put2 {w w2 : World} {x y : List Nat} (h : Pd w w2 x y) : Pd w (w2.setCells (w.heap.size + 1) 0 (nv .u8 y)) x y :=
  ⟨h.one.apart _ _ _ (by omega), h.two.put y rfl, below_setCells (Nat.le_succ _) _ _ _ h.bel⟩
theorem Pd.new (w : World) : Pd w ((w.alloc (.cells (na .u8 (zs 64)) 25)).alloc (.cells (na .u8 (zs 64)) 25)) (zs 64) (zs 64) := ⟨(Fi.new w).res, (Fi.new w).who, (Fi.new w).bel⟩
/-- What Pads leaves. -/
def GivesP (x y : List Nat) (w : World) (e : Ending) (w' : World) : Prop := e = .returned (.tuple #[.agg (na .u8 x), .agg (na .u8 y)]) ∧ Below w.heap.size w w'

set_option maxHeartbeats 1000000 in
theorem Pads_any (bs : List Nat) (A : Option Addr) (n c : Nat) (hl : bs.length = n) (hc : n ≤ c) (hn : n < 1152921504606846976) (w : World) (hv : VarsS w) (hb : Bys w w.heap.size A bs) :
    Calls Tryd.prog 7 #[.slice A n c] w (GivesP (inn bs) (outr bs) w) := by
  have P0 := Lib.hid (Pd.new w)
  have C0 : Go.RowKit.Hid (∀ w2, Pd w w2 (zs 64) (zs 64) → Calls Tryd.prog 14 #[.slice A n c] w2 (GivesB (fill bs) w2)) := Lib.hid (fun w2 h2 =>
    filled_any bs A n c hl hc hn w2 (hv.below h2.bel (Nat.le_refl _)) ((hb.below h2.bel).more h2.bel.size))
  have LF := length_fill bs
  have LI := length_inn bs
  have LO := length_outr bs
  have GI : Go.RowKit.Hid (∀ i, i < 64 → (inn bs).getD i 0 = (fill bs).getD i 0 ^^^ 54) := Lib.hid (fun i hi => pd_get 54 (fill bs) i (by omega))
  have GO : Go.RowKit.Hid (∀ i, i < 64 → (outr bs).getD i 0 = (fill bs).getD i 0 ^^^ 92) := Lib.hid (fun i hi => pd_get 92 (fill bs) i (by omega))
  have FB : Go.RowKit.Hid (∀ i, i < 64 → (fill bs).getD i 0 < 256) := Lib.hid (fun i hi => by
    have e : (fill bs).getD i 0 = (fill bs)[i] := by simp [LF, hi]
    rw [e]; exact fill_lt hb.1 _ (List.getElem_mem _))
  clear hv hb hl
  generalize fill bs = f at *
  generalize inn bs = x at *
  generalize outr bs = y at *
  go_enter Tryd.func7, Tryd.ntmps7
  go_upto_region 1 with (first | (with_reducible refine Arr.alloc (t := 25) _ z64b ?_) | fail)
  generalize (w.alloc (.cells (na .u8 (zs 64)) 25)).alloc (.cells (na .u8 (zs 64)) 25) = w2 at *
  have C2 := Lib.hid (C0.out w2 P0.out)
  clear C0
  go_wp2_with fail
  refine C2.out.mono ?_
  rintro e w3 ⟨rfl, hB3⟩
  have P3 := Lib.hid (P0.out.next (by rw [length_zs]; omega) hB3)
  clear P0 C2 hB3
  go_wp2_with fail
  go_loopw [8] (fun i wr => ∃ t : Nat, t ≤ 64 ∧ i = .int .i64 (t : Nat) ∧ Pd w wr (hal x t) (hal y t)) (fun i _ => 64 - (intOf i).toNat)
  case atStart => exact ⟨0, by omega, rfl, by rw [hal_zero, hal_zero]; exact P3.out⟩
  case round =>
    clear P3
    obtain ⟨t, ht, rfl, hp⟩ := hrel
    by_cases hlt : t < 64
    · have tt : decide ((t : Int) < 64) = true := by simp; omega
      have ti : (t : Int) < 64 := by omega
      have hix : ∀ W : World, (Instr.index 25 (.agg (na .u8 f)) (.int .i64 (t : Int))).run Tryd.prog W = .ok (.int .u8 ((f.getD t 0 : Nat) : Int)) W := fun W => Arr.index o64b W f LF .i64 t hlt
      have hx1 : bits .xor .u8 ((f.getD t 0 : Nat) : Int) (54 : Int) = ((x.getD t 0 : Nat) : Int) := by
        rw [GI.out t hlt]; exact u8_xor_nat _ 54 (FB.out t hlt) (by omega)
      have hx2 : bits .xor .u8 ((f.getD t 0 : Nat) : Int) (92 : Int) = ((y.getD t 0 : Nat) : Int) := by
        rw [GO.out t hlt]; exact u8_xor_nat _ 92 (FB.out t hlt) (by omega)
      have l1 := length_hal x t LI (by omega)
      have l2 := length_hal y t LO (by omega)
      have c1 := hp.one.cell t (by omega)
      have f1 := hp.one.frozen t (by omega)
      rw [hal_get x t LI hlt] at c1
      have s1 := hp.set1 t (x.getD t 0) (by omega)
      rw [← hal_succ x t LI hlt] at s1
      have c2 := s1.two.cell t (by omega)
      have f2 := s1.two.frozen t (by omega)
      rw [hal_get y t LO hlt] at c2
      have s2 := s1.set2 t (y.getD t 0) (by omega)
      rw [← hal_succ y t LO hlt] at s2
      have S2 := Lib.hid s2
      clear s1 s2 l1 l2 hp
      generalize f.getD t 0 = q at *
      generalize x.getD t 0 = q1 at *
      generalize y.getD t 0 = q2 at *
      go_wp2
      go_roundw
      case rel => exact ⟨t + 1, by omega, by go_num, S2.out⟩
      case measure => simp [intOf]; omega
    · have et : (t : Int) = 64 := by omega
      obtain rfl : t = 64 := by omega
      clear et
      rw [hal_all x LI, hal_all y LO] at hp
      have HP := Lib.hid hp
      clear hp
      go_wp2_with fail
      have ST := Lib.hid HP.out.drew
      have Lx : (Tryd.prog.info? 25).map (·.size) = some (nv .u8 x).length := by rw [length_nv, LI]; exact o64b.hi
      have Ly : (Tryd.prog.info? 25).map (·.size) = some (nv .u8 y).length := by rw [length_nv, LO]; exact o64b.hi
      refine wp_region_held_drew (S := fun W => Pd w W x y) (by kernel_rfl) ST.out (fun hHeld => ?_)
      clear ST HP
      generalize wr.drew = wq at *
      refine' wpAnyH_take (i := 0) (v := _) rfl (by kernel_rfl) (by kernel_rfl) (by kernel_rfl) (fun _ _ _ h => h) (yieldsIf_load_mid (by rfl) _ _ rfl _ _ rfl _ _ (fun _ hs => hs.one.1) o64b.hu rfl Lx) (by assumption) ?_
      try simp only [List.getElem_toArray, List.getElem_cons_zero, Act.put, List.setIfInBounds_toArray, List.set_cons_zero, List.set_cons_succ]
      refine' wpAnyH_take (i := 1) (v := _) rfl (by kernel_rfl) (by kernel_rfl) (by kernel_rfl) (fun _ _ _ h => h) (yieldsIf_load_mid (by rfl) _ _ rfl _ _ rfl _ _ (fun _ hs => hs.two.1) o64b.hu rfl Ly) (by assumption) ?_
      try simp only [List.getElem_toArray, List.getElem_cons_zero, List.getElem_cons_succ, Act.put, List.setIfInBounds_toArray, List.set_cons_zero, List.set_cons_succ]
      refine wpAnyH_ready (rs := [2]) (by kernel_rfl) (by simp) (AllReadyH.cons rfl (fun K hK => ?_) AllReadyH.nil)
      refine step_store o64b rfl w.heap.size x x LI hHeld.one LI (x := .tmp 2) (y := .tmp 21) rfl rfl rfl ?_
      refine hK.out _ _ hHeld.put1 (fun hHeld2 => ?_)
      clear hHeld hK K; have hHeld := hHeld2; clear hHeld2
      try simp only [List.getElem_toArray, List.getElem_cons_zero, List.getElem_cons_succ, Act.put]
      refine wpAnyH_ready (rs := [3]) (by kernel_rfl) (by simp) (AllReadyH.cons rfl (fun K hK => ?_) AllReadyH.nil)
      refine step_store o64b rfl (w.heap.size + 1) y y LO hHeld.two LO (x := .tmp 3) (y := .tmp 22) rfl rfl rfl ?_
      refine hK.out _ _ hHeld.put2 (fun hHeld2 => ?_)
      clear hHeld hK K; have hHeld := hHeld2; clear hHeld2
      try simp only [List.getElem_toArray, List.getElem_cons_zero, List.getElem_cons_succ, Act.put]
      refine wpAnyH_done (by kernel_rfl) ?_ _
      have HE := Lib.hid hHeld
      clear hHeld
      go_wp2
      exact bodyPost_ret (v := .tuple #[.agg (na .u8 x), .agg (na .u8 y)]) (results_arrs o64b rfl _ _ w.heap.size (w.heap.size + 1) x y LI LO HE.out.one HE.out.two rfl rfl) rfl ⟨rfl, HE.out.bel⟩
end Go.Proofs.YtdfbhgajomdeeaaDoor
