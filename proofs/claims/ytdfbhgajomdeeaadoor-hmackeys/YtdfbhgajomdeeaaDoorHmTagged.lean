/-
  Contract of hmac.tagged: the tag of parts under the key that has these pads. Conditions: the tables stand in their variables; the pads have 64 bytes each; the parts lie below, in their slices; they are at most 2^32 - 1, and fewer than 2^60 - 64 bytes together.
-/
import Derived.Test.YtdfbhgajomdeeaaDoorHmPads
import Derived.Test.YtdfbhgajomdeeaaDoorOwnVals
namespace Go.Proofs.YtdfbhgajomdeeaaDoor
open Go.RowKit Arr Sh Hm

/-- The pads and the result, as they lie. -/
structure Tg (w w2 : World) (i o : List Nat) : Prop where
  bi : Holds w2 w.heap.size .u8 i
  bo : Holds w2 (w.heap.size + 1) .u8 o
  res : Holds w2 (w.heap.size + 1 + 1) .u8 (zs 32)
  bel : Below w.heap.size w w2
section
variable {w w2 w3 : World} {i o : List Nat}
theorem Tg.lt (h : Tg w w2 i o) : w.heap.size + 1 + 1 < w2.heap.size := h.res.lt (by rw [length_zs]; omega)
theorem Tg.next (h : Tg w w2 i o) {B : Nat} (hB : w.heap.size + 1 + 1 < B) (hb : Below B w2 w3) : Tg w w3 i o := by
  exact ⟨h.bi.below hb (by omega), h.bo.below hb (by omega), h.res.below hb (by omega), h.bel.trans (hb.mono (by omega))⟩
theorem Tg.drew (h : Tg w w2 i o) : Tg w w2.drew i o := ⟨h.bi.drew, h.bo.drew, h.res.drew, below_drew h.bel⟩
theorem Tg.apart (h : Tg w w2 i o) (g : Nat) (vs : List Value) (hg : w.heap.size + 1 + 1 < g) : Tg w (w2.setCells g 0 vs) i o :=
  ⟨h.bi.apart _ _ _ (by omega), h.bo.apart _ _ _ (by omega), h.res.apart _ _ _ (by omega), below_setCells (by omega) _ _ _ h.bel⟩
end
theorem Tg.new (w : World) (i o : List Nat) : Tg w (((w.alloc (.cells (na .u8 i) 25)).alloc (.cells (na .u8 o) 25)).alloc (.cells (na .u8 (zs 32)) 28)) i o := by
  have s1 : (w.alloc (.cells (na .u8 i) 25)).heap.size = w.heap.size + 1 := World.size_alloc ..
  have s2 : ((w.alloc (.cells (na .u8 i) 25)).alloc (.cells (na .u8 o) 25)).heap.size = w.heap.size + 1 + 1 := by rw [World.size_alloc, s1]
  have B1 := ((Holds.new w 25 .u8 i).alloc (.cells (na .u8 o) 25)).alloc (.cells (na .u8 (zs 32)) 28)
  have B2 := (Holds.new (w.alloc (.cells (na .u8 i) 25)) 25 .u8 o).alloc (.cells (na .u8 (zs 32)) 28)
  have B3 := Holds.new ((w.alloc (.cells (na .u8 i) 25)).alloc (.cells (na .u8 o) 25)) 28 .u8 (zs 32)
  rw [s1] at B2
  rw [s2] at B3
  exact ⟨B1, B2, B3, ((below_alloc w _).alloc (by rw [s1]; omega) _).alloc (by rw [s2]; omega) _⟩

set_option maxHeartbeats 1000000 in
theorem tagged_any (i o : List Nat) (hi : i.length = 64) (ho : o.length = 64) (hib : ∀ x, x ∈ i → x < 256) (hob : ∀ x, x ∈ o → x < 256) (ps : List Pt) (A : Option Addr) (N c : Nat) (hN : ps.length = N) (hAc : A = none → c = 0) (hN2 : N < 4294967296) (hT : (textOf ps).length + 64 < 1152921504606846976)
    (w : World) (hp : Parts w w.heap.size A ps) (hv : VarsS w) :
    Calls Tryd.prog 17 #[.agg (na .u8 i), .agg (na .u8 o), .slice A N c] w (GivesB (tagP i o (textOf ps)) w) := by
  have T0 := Lib.hid (Tg.new w i o)
  have hmk : Go.RowKit.Hid (∀ W : World, ∃ arr : Array Value, arr.size = N + 1 ∧ (Instr.makeSlice 34 (.int .i64 0) (.int .i64 (1 + (N : Int)))).run Tryd.prog W = .ok (.slice (some ⟨W.heap.size, 0, none⟩) 0 (N + 1)) (W.alloc (.cells arr 22))) := Lib.hid (fun W => by
    obtain ⟨i0, h1, hz0, hz1, hz2⟩ := info_parts info_bytes
    have hr := run_make (P := Tryd.prog) W 34 22 i0 (.slice none 0 0) Tryd.underlying34 h1 hz0 .i64 .i64 0 (1 + (N : Int)) (by omega) (by omega) (by rw [hz2]; omega) (by omega)
    have e1 : (1 + (N : Int)).toNat = N + 1 := by omega
    rw [e1, hz1] at hr
    exact ⟨_, by rw [size_madeCells]; omega, hr⟩)
  have wN : IntKind.i64.wrap (1 + (N : Int)) = 1 + (N : Int) := by rw [IntKind.wrap_i64]; omega
  have hs1 := fun W : World => sliceW o64b W w.heap.size 0
  have hs2 := fun W : World => sliceW o64b W (w.heap.size + 1) 0
  have LS := length_sum (o ++ Sh.sum (i ++ textOf ps))
  have LI := length_sum (i ++ textOf ps)
  have HN := Lib.hid hN
  have HT := Lib.hid hT
  have HV := Lib.hid hv
  have HP := Lib.hid hp
  have SB := Lib.hid (sum_lt (i ++ textOf ps))
  have HTP : Go.RowKit.Hid (tagP i o (textOf ps) = Sh.sum (o ++ Sh.sum (i ++ textOf ps))) := Lib.hid rfl
  clear hN hT hv hp
  go_enter Tryd.func17, Tryd.ntmps17
  go_upto_region 1 with (first | (with_reducible refine Arr.alloc (t := 28) _ z32 ?_) | fail)
  generalize ((w.alloc (.cells (na .u8 i) 25)).alloc (.cells (na .u8 o) 25)).alloc (.cells (na .u8 (zs 32)) 28) = w1 at *
  obtain ⟨arr, harr, hm1⟩ := hmk.out w1
  have O1 : Go.RowKit.Hid ((w1.alloc (.cells arr 22)).ownsRow w1.heap.size 22 1 (.slice (some ⟨w1.heap.size, 0, none⟩) 0 (N + 1)) 0 []) := Lib.hid (World.ownsRow_made w1 arr (N + 1) (Nat.le_refl _) (by unfold maxLen; omega) (by omega))
  have B1 := Lib.hid (below_alloc w1 (.cells arr 22))
  have hlt := T0.out.lt
  have T1 := Lib.hid (T0.out.next hlt (below_alloc w1 (.cells arr 22)))
  clear hmk harr T0
  go_upto_region 2 with fail
  generalize w1.alloc (.cells arr 22) = w2 at *
  have hs12 := B1.out.size
  clear hm1
  go_upto_region 3 with (at_builtin; refine append_one rfl (.tmp 13) (.tmp 15) 34 rfl w1.heap.size 22 (.slice none 0 0) 24 Tryd.underlying34 info_bytes rfl (.slice (some ⟨w1.heap.size, 0, none⟩) 0 (N + 1)) 0 [] (.slice (some ⟨w.heap.size, 0, none⟩) 64 64) rfl O1.out rfl rfl (by omega) (by omega) hs12 ?_; intro v3 w3 hown3 hbel3)
  rw [Nat.zero_add, List.nil_append] at hown3
  have O3 := Lib.hid hown3
  have B3 := Lib.hid (B1.out.trans hbel3)
  have T3 := Lib.hid (T1.out.next hlt hbel3)
  have hs13 := B3.out.size
  have P3 := Lib.hid (HP.out.below T3.out.bel)
  clear hown3 hbel3 O1 B1 T1 hs12
  go_upto_region 4 with (at_builtin; refine append_vals rfl (.tmp 17) (.tmp 18) 34 rfl w1.heap.size 22 (.slice none 0 0) 24 Tryd.underlying34 info_bytes rfl (by omega) v3 1 [.slice (some ⟨w.heap.size, 0, none⟩) 64 64] rfl O3.out A N c (hdsV ps) rfl hAc (by rw [length_hdsV]; exact HN.out) (hdsV_one ps) P3.out.cells (by omega) hs13 ?_; intro v4 w4 hown4 hbel4)
  have T4 := T3.out.next hlt hbel4
  have hs14 := Nat.le_trans hs13 hbel4.size
  have hI4 := bys_of_holds T4.bi hib
  have hO4 : w4.ownsRow w1.heap.size 22 1 v4 (1 + N) (hdsV (⟨some ⟨w.heap.size, 0, none⟩, 64, i⟩ :: ps)) := by
    have e : hdsV (⟨some ⟨w.heap.size, 0, none⟩, 64, i⟩ :: ps) = [.slice (some ⟨w.heap.size, 0, none⟩) 64 64] ++ hdsV ps := by
      show _ :: _ = _; rw [← hi]; rfl
    rw [e]; exact hown4
  have hP4 := P3.out.below (show Below w.heap.size w3 w4 from hbel4.mono (by omega))
  obtain ⟨A4, c4, rfl, hN4, hAc4, hPt4⟩ := Parts.of_owns hO4 (fun j hj => by
    match j, hj with
    | 0, _ => exact ⟨by show i.length ≤ 64; omega, hI4⟩
    | j + 1, hj => exact ⟨(hP4.each j (by simpa using hj)).1, ((hP4.each j (by simpa using hj)).2).more (by omega)⟩)
  have C4 := Sum_any _ A4 (1 + N) c4 hN4 (by omega) (by rw [textOf_cons, List.length_append]; show i.length + _ < _; have := HT.out; omega) w4 hPt4 (HV.out.below T4.bel (Nat.le_refl _))
  rw [textOf_cons] at C4
  have HC4 := Lib.hid C4
  have HT4 := Lib.hid T4
  clear C4 hPt4 hP4 hO4 hI4 hown4 hbel4 T4 O3 B3 T3 P3 HN hN4 HP
  generalize Sh.sum (i ++ textOf ps) = is at *
  go_wp2_with fail
  refine HC4.out.mono ?_
  rintro e w5 ⟨rfl, hB5⟩
  have T5 := HT4.out.next (Nat.lt_of_lt_of_le hlt hs14) hB5
  have hlt5 := T5.lt
  have A5 := Holds.new w5 28 .u8 (zs 32)
  have A6 := A5.put is (by rw [LI, length_zs])
  have T6 := (T5.next hlt5 (below_alloc w5 (.cells (na .u8 (zs 32)) 28))).apart w5.heap.size (nv .u8 is) (by omega)
  have H5 := Lib.hid A5
  have H6 := Lib.hid A6
  have HT6 := Lib.hid T6
  clear A5 A6 T5 T6 hB5 HC4 HT4
  go_upto_region 5 with (first | (with_reducible refine Arr.alloc (t := 28) _ z32 ?_) | (with_reducible refine Arr.store o32 w5.heap.size (zs 32) is (length_zs _) H5.out LI rfl rfl ?_) | fail)
  generalize (w5.alloc (.cells (na .u8 (zs 32)) 28)).setCells w5.heap.size 0 (nv .u8 is) = w6 at *
  clear H5
  have hs3 := fun W : World => sliceW o32 W w5.heap.size 0
  generalize w5.heap.size = g at *
  refine region_tail 2 (by kernel_rfl) (by kernel_rfl) ?_
  intro wd hwd
  have K6 : Holds wd g .u8 is := by rw [hwd]; exact H6.out.drew
  have KT : Tg w wd i o := by rw [hwd]; exact HT6.out.drew
  clear hwd H6 HT6
  have hPn := Parts.new wd 22 [⟨some ⟨w.heap.size + 1, 0, none⟩, 64, o⟩, ⟨some ⟨g, 0, none⟩, 32, is⟩] (fun j hj => by
    match j, hj with
    | 0, _ => exact ⟨by show o.length ≤ 64; omega, bys_of_holds KT.bo hob⟩
    | 1, _ => exact ⟨by show is.length ≤ 32; omega, bys_of_holds K6 SB.out⟩) #[.slice (some ⟨w.heap.size + 1, 0, none⟩) 64 64, .slice (some ⟨g, 0, none⟩) 32 32] (by
      show _ = (List.toArray [Value.slice _ o.length 64, Value.slice _ is.length 32]); rw [ho, LI])
  have TX : textOf [⟨some ⟨w.heap.size + 1, 0, none⟩, 64, o⟩, ⟨some ⟨g, 0, none⟩, 32, is⟩] = o ++ is := by simp [textOf]
  have hltd := KT.lt
  have KTn := KT.next hltd (below_alloc wd (.cells #[.slice (some ⟨w.heap.size + 1, 0, none⟩) 64 64, .slice (some ⟨g, 0, none⟩) 32 32] 22))
  have C7 := Sum_any _ (some ⟨wd.heap.size, 0, none⟩) 2 2 rfl (by omega) (by rw [TX, List.length_append]; omega) _ hPn (HV.out.below KTn.bel (Nat.le_refl _))
  rw [TX] at C7
  have HC7 := Lib.hid C7
  have HK7 := Lib.hid KTn
  clear C7 KTn KT K6 hPn TX
  generalize Sh.sum (o ++ is) = sm at *
  simp only [List.take_succ_cons, List.take_zero, List.drop_succ_cons, List.drop_zero]
  repeat still_step
  refine wpStill_nil ?_
  go_wp2_with fail
  refine HC7.out.mono ?_
  rintro e w8 ⟨rfl, hB8⟩
  have T8 := HK7.out.next HK7.out.lt hB8
  have H8 := Lib.hid T8
  have F1 := Lib.hid (T8.res.put sm (by rw [LS, length_zs]))
  have F2 := Lib.hid (below_setCells (b := w.heap.size + 1 + 1) (by omega) (nv .u8 sm) 0 _ T8.bel)
  clear T8 hB8 HC7 HK7
  go_wp2_with (first | (with_reducible refine Arr.store o32 (w.heap.size + 1 + 1) (zs 32) sm (length_zs _) H8.out.res LS rfl rfl ?_) | fail)
  exact bodyPost_ret (v := .agg (na .u8 sm)) (results_arr o32 rfl _ _ (w.heap.size + 1 + 1) sm LS F1.out rfl) rfl ⟨by rw [HTP.out], F2.out⟩
end Go.Proofs.YtdfbhgajomdeeaaDoor
