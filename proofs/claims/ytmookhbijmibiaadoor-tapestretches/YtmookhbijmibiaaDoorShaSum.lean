/-
  Contract of sha.Sum: the sum of parts, one behind the other. Conditions: the parts lie below, in their slices; all of them together are fewer than 2^60 bytes; the tables stand in their variables.
-/
import Derived.Test.YtmookhbijmibiaaDoorShaRsum
namespace Go.Proofs.YtmookhbijmibiaaDoor.Arr
open Go.ChangeShapes Go.WideShapes Go.ChangeAt Go.RowKit
variable {P : Program} {t e : TypeId} {n : Nat} {k : IntKind}
/-- A whole array is read, of which nothing is known but what it holds. -/
theorem loadR {ops : Array Oper} {rest : List Oper} {dst : Option Tmp} {ty : TypeId} {pos : String} {after : Array Edge} {x : Operand} {a : Act} {w : World} {Q : Exit → Act → World → Prop} (o : Of P t e n k) (g : Nat) (l : List Nat) (hl : l.length = n) (hb : w.rangeAt g 0 (nv k l))
    (hx : a.eval x = .pointer (some ⟨g, 0, none⟩)) (h : wpList P ops Q rest (a.put dst (.agg (na k l))) w) : wpList P ops Q ({ dst := dst, op := .load t x, type := ty, pos := pos, after := after, guard := none } :: rest) a w :=
  wpList_load_mid rfl _ x rfl g 0 hx (nv k l) _ hb o.hu rfl (by rw [length_nv, hl]; exact o.hi) h
/-- A value of one part, the others noughts. -/
theorem build1 {ops : Array Oper} {rest : List Oper} {dst : Option Tmp} {t ty : TypeId} {pos : String} {after : Array Edge} {a : Act} {w : World} {Q : Exit → Act → World → Prop} {i : Nat} {x : Operand} (cs : Array Value) (vx : Value) (hx : a.eval x = vx) (hz : P.built t [(i, vx)] = some cs)
    (h : wpList P ops Q rest (a.put dst (.agg cs)) w) : wpList P ops Q ({ dst := dst, op := .build t #[(i, x)], type := ty, pos := pos, after := after, guard := none } :: rest) a w :=
  wpList_build rfl t #[(i, x)] rfl (by simp [hx, hz]) (by simpa [hx, hz] using h)
theorem HV.put {w : World} {g : Nat} {vs us : List Value} (h : HV w g vs) (hl : us.length = vs.length) : HV (w.setCells g 0 us) g us :=
  ⟨World.rangeAt_setCells_same _ _ _ _ (by rw [hl]; exact h.2), by rw [hl]; exact World.there_setCells h.2 _ _ _⟩
/-- A whole struct is written, all its parts of one cell. -/
theorem storeV {ops : Array Oper} {rest : List Oper} {dst : Option Tmp} {ty : TypeId} {pos : String} {after : Array Edge} {x y : Operand} {a : Act} {w : World} {Q : Exit → Act → World → Prop} (g : Nat) (vs us : List Value) (hb : HV w g vs) (hl : us.length = vs.length) (hi : (P.info? t).map (·.size) = some us.length) (h1 : ∀ v ∈ us, v.oneCell' = true)
    (hx : a.eval x = .pointer (some ⟨g, 0, none⟩)) (hy : a.eval y = .agg us.toArray) (h : wpList P ops Q rest (a.put dst undef) (w.setCells g 0 us)) :
    wpList P ops Q ({ dst := dst, op := .store t x y, type := ty, pos := pos, after := after, guard := none } :: rest) a w :=
  wpList_store_mid rfl _ x y rfl g 0 us.toArray hx hy (by simp only [List.size_toArray, hl]; exact hb.2) (by simpa using hi) (all_oneCell_toArray h1) (by simpa using h)
end Go.Proofs.YtmookhbijmibiaaDoor.Arr
namespace Go.Proofs.YtmookhbijmibiaaDoor
open Go.RowKit Arr Sh

/-- The cells of a sum at its begin. -/
def newR : List Value := nv .u32 H0.l ++ (nv .u8 (zs 64) ++ [.int .i64 0])
theorem builtR : Tryd.prog.built 51 [(0, .agg (na .u32 H0.l))] = some newR.toArray := by kernel_rfl
def zeroR : List Value := nv .u32 (zs 8) ++ (nv .u8 (zs 64) ++ [.int .i64 0])
theorem zR : (Tryd.prog.info? 51).bind (·.zero) = some (.agg zeroR.toArray) := by kernel_rfl
theorem iR : (Tryd.prog.info? 51).map (·.size) = some 73 := by kernel_rfl
theorem Rn.ofHV {w : World} {g : Nat} (h : HV w g newR) : Rn w g (zs 64) [] := by
  have h1 := HV.seg [] .u32 H0.l _ h
  have h2 := HV.seg (nv .u32 H0.l) .u8 (zs 64) [.int .i64 0] h
  have h3 := h.cell 72 (.int .i64 0) rfl
  have h4 := h.frozen 72 (by decide)
  exact ⟨held_nil _ (length_zs _) (fun x hx => by have := List.eq_of_mem_replicate hx; omega), h1, h2, h3, h4⟩
theorem newR_one : ∀ v ∈ newR, v.oneCell' = true := by
  intro v hv
  simp only [newR, List.mem_append, List.mem_singleton] at hv
  rcases hv with h | h | rfl
  · exact nv_one _ _ v h
  · exact nv_one _ _ v h
  · rfl

/-- A part: where it lies, its room, its bytes. -/
structure Pt where
  A : Option Addr
  c : Nat
  bs : List Nat
/-- The parts, one behind the other. -/
def textOf (ps : List Pt) : List Nat := (ps.map (·.bs)).flatten
theorem textOf_snoc (ps : List Pt) (t : Nat) (h : t < ps.length) : textOf (ps.take (t + 1)) = textOf (ps.take t) ++ ps[t].bs := by
  rw [textOf, List.take_succ_eq_append_getElem h, List.map_append, List.flatten_append]
  simp [textOf]
theorem textOf_le (ps : List Pt) (t : Nat) : (textOf (ps.take t)).length ≤ (textOf ps).length := by
  have e : textOf ps = textOf (ps.take t) ++ textOf (ps.drop t) := by
    unfold textOf
    rw [← List.flatten_append, ← List.map_append, List.take_append_drop]
  rw [e, List.length_append]; omega
/-- A slice of slices holds the parts, below block B. -/
structure Parts (w : World) (B : Nat) (A : Option Addr) (ps : List Pt) : Prop where
  heads : 0 < ps.length → ∃ b off, A = some ⟨b, off, none⟩ ∧ b < B ∧ ∀ i (h : i < ps.length), w.cell? ⟨b, off + i, none⟩ = some (.slice ps[i].A ps[i].bs.length ps[i].c)
  each : ∀ i (h : i < ps.length), ps[i].bs.length ≤ ps[i].c ∧ Bys w B ps[i].A ps[i].bs
theorem Parts.below {w w' : World} {B : Nat} {A : Option Addr} {ps : List Pt} (h : Parts w B A ps) (hb : Below B w w') : Parts w' B A ps :=
  ⟨fun hp => by
    obtain ⟨b, off, e, hl, hc⟩ := h.heads hp
    exact ⟨b, off, e, hl, fun i hi => (hb.cell (p := ⟨b, off + i, none⟩) hl).trans (hc i hi)⟩, fun i hi => ⟨(h.each i hi).1, (h.each i hi).2.below hb⟩⟩
/-- What stands in variables, and is read by Sum. -/
structure VarsS (w : World) : Prop where
  vars : Vars w
  first : Tab32 w 0 H0.l
theorem VarsS.lt1 {w : World} (h : VarsS w) : 1 < w.heap.size := h.vars.tab.lt
theorem VarsS.lt2 {w : World} (h : VarsS w) : 2 < w.heap.size := h.vars.kinds.lt (by rw [length_K]; omega)
theorem VarsS.lt3 {w : World} (h : VarsS w) : 0 < w.heap.size := h.first.lt (by rw [length_l]; omega)
theorem Vars.below {w w' : World} {B : Nat} (h : Vars w) (hb : Below B w w') (hB : w.heap.size ≤ B) : Vars w' := ⟨h.tab.below hb (Nat.lt_of_lt_of_le h.tab.lt hB), h.kinds.below hb (Nat.lt_of_lt_of_le (h.kinds.lt (by rw [length_K]; omega)) hB)⟩
theorem VarsS.below {w w' : World} {B : Nat} (h : VarsS w) (hb : Below B w w') (hB : w.heap.size ≤ B) : VarsS w' := ⟨h.vars.below hb hB, h.first.below hb (Nat.lt_of_lt_of_le h.lt3 hB)⟩
theorem Rn.below {w w' : World} {g B : Nat} {R m : List Nat} (h : Rn w g R m) (hb : Below B w w') (hg : g < B) : Rn w' g R m := ⟨h.held, h.nums.below hb hg, h.rest.below hb hg, (hb.cell (p := ⟨g, 72, none⟩) hg).trans h.cnt, (hb.frozen (p := ⟨g, 72, none⟩) hg).trans h.fre⟩

set_option maxHeartbeats 2000000 in
set_option maxRecDepth 10000 in
theorem Sum_any (ps : List Pt) (A : Option Addr) (N c : Nat) (hN : ps.length = N) (hN2 : N < 1152921504606846976) (hT : (textOf ps).length < 1152921504606846976) (w : World) (hp : Parts w w.heap.size A ps) (hv : VarsS w) :
    Calls Tryd.prog 12 #[.slice A N c] w (GivesB (Sh.sum (textOf ps)) w) := by
  obtain ⟨U, hU⟩ : ∃ U, U = newR := ⟨_, rfl⟩
  obtain ⟨Z, hZ⟩ : ∃ Z, Z = zeroR := ⟨_, rfl⟩
  obtain ⟨hl, ehl⟩ : ∃ hl, hl = H0.l := ⟨_, rfl⟩
  have hbu := builtR
  rw [← hU, ← ehl] at hbu
  have hzz := zR
  rw [← hZ] at hzz
  have LU : U.length = 73 := by rw [hU]; rfl
  have LZ : Z.length = 73 := by rw [hZ]; rfl
  have hiR := iR
  rw [← LU] at hiR
  have U1 := newR_one
  rw [← hU] at U1
  have PN : ∀ w' g', HV w' g' U → Rn w' g' (zs 64) [] := by rw [hU]; exact fun _ _ => Rn.ofHV
  have lhl : hl.length = 8 := by rw [ehl]; rfl
  have s1 : (w.alloc (.cells (na .u8 (zs 32)) 28)).heap.size = w.heap.size + 1 := World.size_alloc ..
  have hFR := (hv.first.below (below_alloc w (.cells (na .u8 (zs 32)) 28)) hv.lt3).range
  rw [← ehl] at hFR
  have A0 := HV.new (w.alloc (.cells (na .u8 (zs 32)) 28)) 51 Z
  rw [s1] at A0
  have A1 := ((Holds.new w 28 .u8 (zs 32)).alloc (.cells Z.toArray 51)).apart (w.heap.size + 1) 0 U (by omega)
  have A2 := PN _ _ (A0.put (us := U) (by rw [LU, LZ]))
  have A3 := below_setCells (b := w.heap.size + 1) (by omega) U 0 _ (((Below.refl w.heap.size w).alloc (Nat.le_refl _) (.cells (na .u8 (zs 32)) 28)).alloc (by rw [s1]; omega) (.cells Z.toArray 51))
  have A4 : (((w.alloc (.cells (na .u8 (zs 32)) 28)).alloc (.cells Z.toArray 51)).setCells (w.heap.size + 1) 0 U).heap.size = w.heap.size + 1 + 1 := by rw [size_setCells, World.size_alloc, s1]
  have h1 := hv.lt1
  have h2 := hv.lt2
  have FR := Lib.hid hFR
  have HV := Lib.hid hv
  have HP := Lib.hid hp
  have HN := Lib.hid hN
  have HTL := Lib.hid hT
  have B0 := Lib.hid A0
  have B1 := Lib.hid A1
  have B2 := Lib.hid A2
  have B3 := Lib.hid A3
  have B4 := Lib.hid A4
  have HI := Lib.hid hiR
  have HU1 := Lib.hid U1
  clear A0 A1 A2 A3 A4 hFR hv hp hN PN ehl hU hZ hT hiR U1
  have es := Lib.hid s1
  clear s1
  go_enter Tryd.func12, Tryd.ntmps12
  go_upto_region 1 with (first | (with_reducible refine Arr.alloc (t := 28) _ z32 ?_) | fail)
  generalize hwa : w.alloc (.cells (na .u8 (zs 32)) 28) = wa at *
  have es1 := es.out
  rw [← es1] at B0 B1 B2 B3 B4
  clear es hwa
  have es := Lib.hid es1
  clear es1
  go_upto_region 2 with (first | (with_reducible refine Arr.loadR o8 0 hl lhl FR.out rfl ?_) | (with_reducible refine Arr.build1 U.toArray (.agg (na .u32 hl)) rfl hbu ?_) | (with_reducible refine Arr.alloc (t := 51) _ hzz ?_) | (with_reducible refine Arr.storeV (t := 51) wa.heap.size Z U B0.out (by rw [LU, LZ]) HI.out HU1.out rfl rfl ?_) | fail)
  generalize (wa.alloc (.cells Z.toArray 51)).setCells wa.heap.size 0 U = w2 at *
  have hg := es.out
  clear B0 FR hbu hzz HI HU1 LU LZ lhl es
  generalize wa.heap.size = g at *
  have hgs : g < w2.heap.size := by have := B4.out; omega
  have hgw : w.heap.size ≤ g := by omega
  have hgl : w.heap.size < g := by omega
  have n1 : 1 ≠ g := by omega
  have n2 : 2 ≠ g := by omega
  have HV2 := Lib.hid (HV.out.vars.below B3.out (Nat.le_refl _))
  clear hg B4
  go_wp2_with fail
  go_loopw [4, 11] (fun v i wr => ∃ (t : Nat) (R : List Nat), t ≤ N ∧ i = .int .i64 (t : Nat) ∧ v = .int .u64 ((textOf (ps.take t)).length : Nat) ∧ Rn wr g R (textOf (ps.take t)) ∧ Only g w2 wr) (fun _ i _ => N - (intOf i).toNat)
  case atStart => exact ⟨0, zs 64, by omega, rfl, rfl, B2.out, Only.refl _ _⟩
  case round =>
    clear B2
    obtain ⟨t, R, ht, rfl, rfl, hr, ho⟩ := hrel
    have HR := Lib.hid hr
    have HO := Lib.hid ho
    have hBW : Below w.heap.size w wr := B3.out.trans (ho.below hgw B3.out.size)
    have HW := Lib.hid hBW
    have HVr := Lib.hid (HV2.out.only ho n1 n2)
    have hTT := textOf_le ps t
    have hT2 := HTL.out
    clear hr ho hBW
    by_cases hlt : t < N
    · have tt : decide ((t : Int) < (N : Int)) = true := by simp; omega
      have tl : t < ps.length := by rw [HN.out]; exact hlt
      obtain ⟨pb, po, rfl, hpb, hpc⟩ := (HP.out.below HW.out).heads (by omega)
      have cp := hpc t tl
      have he := (HP.out.below HW.out).each t tl
      have hts := textOf_snoc ps t tl
      have hT3 := textOf_le ps (t + 1)
      rw [hts, List.length_append] at hT3
      have C1 := Lib.hid (add_any R (textOf (ps.take t)) ps[t].bs g ps[t].A ps[t].bs.length ps[t].c rfl he.1 wr HR.out (BysN.of he.2 hgw HW.out.size) HVr.out n1 n2)
      rw [← hts] at C1
      have HTS : Go.RowKit.Hid ((textOf (ps.take (t + 1))).length = (textOf (ps.take t)).length + ps[t].bs.length) := Lib.hid (by rw [hts, List.length_append])
      clear hpc he hts
      generalize ps[t].A = pA at *
      generalize ps[t].bs.length = pl at *
      generalize ps[t].c = pc at *
      generalize (textOf (ps.take t)).length = m at *
      generalize (textOf ps).length = M at *
      have k1 : IntKind.u64.wrap (pl : Int) = (pl : Int) := by rw [IntKind.wrap_u64]; omega
      have k2 : IntKind.u64.wrap ((m : Int) + (pl : Int)) = (m : Int) + (pl : Int) := by rw [IntKind.wrap_u64]; omega
      go_wp2_with fail
      refine C1.out.mono ?_
      rintro e w3 ⟨rfl, hr3, ho3⟩
      have HR3 := Lib.hid hr3
      have HO3 := Lib.hid (HO.out.trans ho3)
      clear hr3 ho3
      go_wp2
      go_roundw
      case rel =>
        obtain ⟨R', hR'⟩ := HR3.out
        exact ⟨t + 1, R', by omega, by go_num, by rw [HTS.out]; go_num, hR', HO3.out⟩
      case measure => simp [intOf]; omega
    · obtain rfl : t = N := by omega
      have eT : ps.take t = ps := List.take_of_length_le (by rw [HN.out]; exact Nat.le_refl _)
      rw [eT] at HR hTT
      have tt : decide ((t : Int) < (t : Int)) = false := by simp
      have hgr : g < wr.heap.size := HR.out.rest.lt (by rw [HR.out.held.1]; omega)
      have C1 := Lib.hid (behind_any (textOf ps).length hT2 wr HVr.out.tab)
      have R0 := Lib.hid (show Holds wr w.heap.size .u8 (zs 32) from HAt.only (Holds.at0 B1.out) HO.out (Nat.lt_trans hgl hgs) (by omega))
      rw [eT]
      clear eT B1 hTT
      go_wp2_with fail
      refine C1.out.mono ?_
      rintro e w4 ⟨h, rfl, hP, hh, hB⟩
      have hhg : h ≠ g := by omega
      have hPl := length_pad (textOf ps).length
      have hsg := size_ge (textOf ps).length
      have hhs := hP.lt (by omega)
      have C2 := Lib.hid (add_any R (textOf ps) (pad (textOf ps).length) g (some ⟨h, 0, none⟩) (size (textOf ps).length) (size (textOf ps).length) hPl (Nat.le_refl _) w4 (HR.out.below hB hgr) ⟨pad_byte _, fun _ => ⟨h, 0, rfl, hhs, hhg, fun i hi => hP.cell i hi⟩⟩ (HVr.out.below hB (Nat.le_refl _)) n1 n2)
      have V4 := Lib.hid (HVr.out.below hB (Nat.le_refl _))
      have R4 := Lib.hid (R0.out.below hB (by omega))
      have W4 := Lib.hid (HW.out.trans (hB.mono HW.out.size))
      have g4 : g < w4.heap.size := Nat.lt_of_lt_of_le hgr hB.size
      clear hB hP C1 hPl R0 HR HO HVr
      go_wp2_with fail
      refine C2.out.mono ?_
      rintro e w5 ⟨rfl, ⟨R', hR'⟩, hO5⟩
      have V5 := V4.out.only hO5 n1 n2
      have C3 := Lib.hid (rsum_any (now (tot (textOf ps))) (now_ok _) g w5 hR'.nums V5.tab)
      have R5 := Lib.hid (show Holds w5 w.heap.size .u8 (zs 32) from HAt.only (Holds.at0 R4.out) hO5 (by omega) (by omega))
      have W5 := Lib.hid (W4.out.trans (hO5.below hgw W4.out.size))
      have hw5 : w.heap.size < w5.heap.size := Nat.lt_of_lt_of_le (by omega) hO5.size
      have HSE := Lib.hid (sum_eq (textOf ps))
      have HSL := length_sum (textOf ps)
      clear hO5 hR' V5 C2 R4 W4 V4
      generalize out (now (tot (textOf ps))) = os at *
      generalize Sh.sum (textOf ps) = sm at *
      go_wp2_with fail
      refine C3.out.mono ?_
      rintro e w6 ⟨rfl, hB6⟩
      have R6 := Lib.hid (R5.out.below hB6 hw5)
      have F2 := Lib.hid (below_setCells (b := w.heap.size) (Nat.le_refl _) (nv .u8 sm) 0 _ (W5.out.trans (hB6.mono W5.out.size)))
      have F1 := Lib.hid (R6.out.put sm (by rw [HSL, length_zs]))
      rw [← HSE.out]
      clear hB6 C3 R5 W5
      go_wp2_with (first | (with_reducible refine Arr.store o32 w.heap.size (zs 32) sm (length_zs _) R6.out HSL rfl rfl ?_) | fail)
      exact bodyPost_ret (v := .agg (na .u8 sm)) (results_arr o32 rfl _ _ w.heap.size sm HSL F1.out rfl) rfl ⟨rfl, F2.out⟩
end Go.Proofs.YtmookhbijmibiaaDoor
