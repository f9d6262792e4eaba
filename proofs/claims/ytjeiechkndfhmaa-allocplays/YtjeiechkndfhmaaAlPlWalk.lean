/-
  The walk of the law that a pool has the document's sectors free. Conditions: the slices hold what is used, and what is done. (Written by tools/gen_alplays.py.)
-/
import Derived.Test.YtjeiechkndfhmaaAlPlMem
import Derived.Test.YtjeiechkndfhmaaRowExt
import Derived.Test.YtjeiechkndfhmaaAlOnWalk
namespace Go.Proofs.Ytjeiechkndfhmaa
open Go.RowKit Arr Ex
set_option linter.unusedSimpArgs false

/-- What is free at first: all. -/
theorem all_free (s : Int) (m : Nat) (u : Int) : isB s (List.replicate m true) u true = true ↔ s ≤ u ∧ u < s + (m : Int) := by
  rw [isB_iff]
  constructor
  · rintro ⟨h1, h2⟩
    have := (List.getElem?_eq_some_iff.1 h2).1
    rw [List.length_replicate] at this
    exact ⟨h1, by omega⟩
  · rintro ⟨h1, h2⟩
    have hi : (u - s).toNat < m := by omega
    exact ⟨h1, by rw [List.getElem?_eq_getElem (by rw [List.length_replicate]; exact hi), List.getElem_replicate]⟩
theorem of_rg (s : Int) (m : Nat) (l : List (Int × Int)) (hm : may (s, (m : Int)) = true) : ofOk s (m : Int) l ↔ rgOk s (List.replicate m true) l false := by
  unfold ofOk rgOk
  constructor
  · rintro ⟨_, h1, h2⟩
    exact ⟨h1, fun u hu => (all_free s m u).2 ((in_one_iff s m u).1 (h2 u ((mem_secs u l).1 hu)))⟩
  · rintro ⟨h1, h2⟩
    exact ⟨hm, h1, fun u hu => (in_one_iff s m u).2 ((all_free s m u).1 (h2 u ((mem_secs u l).2 hu)))⟩
theorem pol_first (s : Int) (m : Nat) (l F : List (Int × Int)) (hg : rgOk s (List.replicate m true) l false) (hr : right F = true) (hF : ∀ u, Mem u F ↔ Mem u [(s, (m : Int))] ∧ ¬ Mem u l) : Pol F s (setAll s false (secs l) (List.replicate m true)) := by
  refine ⟨hr, fun u => ?_⟩
  rw [isB_set (secs l) false (fun u hu => isB_lt (hg.2 u hu)) u, hF, in_one_iff, ← mem_secs u l]
  by_cases hu : u ∈ secs l
  · rw [if_pos hu]; simp [hu]
  · rw [if_neg hu, all_free]; simp [hu]
theorem few_tot {l : List (Int × Int)} (h : FewE l) (hc : chain l = true) : total l ≤ 100000 := by have := fewE_total h ((chain_iff l).1 hc).1; omega
set_option maxRecDepth 100000 in
set_option maxHeartbeats 16000000 in
theorem plays_walk (w : World) (s n : Int) (hi : I64 (s, n)) (A0 : Option Addr) (N0 c0 : Nat) (us : List (Int × Int)) (hl0 : us.length = N0) (_hc0 : N0 ≤ c0) (_hn0 : A0 = none → c0 = 0) (hx0 : Exts w w.heap.size A0 us)
    (A : Option Addr) (N c : Nat) (ds : List Dd) (hN : ds.length = N) (hm : N ≤ 9223372036854775807) (hx : Dds w w.heap.size A ds) :
    Calls Try.prog 3 #[.agg #[.int .i64 s, .int .i64 n], .slice A0 N0 c0, .slice A N c] w (Bel (.bool true) w) := by
  have mixed : Try.prog.follows .mixedOrders = true := by kernel_rfl
  obtain ⟨wb, hwb⟩ : ∃ wb, wb = w.alloc (.cells #[.int .i64 s, .int .i64 n] 22) := ⟨_, rfl⟩
  have hbb : Below w.heap.size w wb := hwb ▸ below_alloc w _
  have hsb : wb.heap.size = w.heap.size + 1 := by rw [hwb]; simp
  have HBX := Lib.hid (show ∀ W, Below wb.heap.size wb W → W.cell? ⟨w.heap.size, 0, none⟩ = some (.int .i64 s) ∧ W.cell? ⟨w.heap.size, 1, none⟩ = some (.int .i64 n) from fun W hW =>
    ⟨(hW.cell (p := ⟨w.heap.size, 0, none⟩) (by show w.heap.size < wb.heap.size; omega)).trans (by rw [hwb, World.cell?_alloc_new]; rfl), (hW.cell (p := ⟨w.heap.size, 1, none⟩) (by show w.heap.size < wb.heap.size; omega)).trans (by rw [hwb, World.cell?_alloc_new]; rfl)⟩)
  have HBB := Lib.hid hbb
  have HI := Lib.hid hi
  have HSB := Lib.hid hsb
  have HN := Lib.hid hN
  have HL0 := Lib.hid hl0
  have HX := Lib.hid (show ∀ W, Below wb.heap.size wb W → Dds W w.heap.size A ds ∧ Exts W w.heap.size A0 us ∧ Below w.heap.size w W from fun W hW => by
    have h := hbb.trans (hW.mono hbb.size)
    exact ⟨hx.below h, hx0.below h, h⟩)
  have HX0 := Lib.hid hx
  have CA := Lib.hid (awake_any wb)
  clear hN hx hx0 hbb hl0 hsb hi
  go_enter Try.func3, Try.ntmps3
  go_wp2_with fail
  rw [← hwb]
  clear hwb
  refine CA.out.mono ?_
  rintro e w1 ⟨rfl, hb1⟩
  have HB1 := Lib.hid hb1
  obtain ⟨q0, q1⟩ := HBX.out w1 hb1
  have hx1 := HX.out w1 hb1
  have hsz1 : w.heap.size ≤ w1.heap.size := hx1.2.2.size
  have CF := Lib.hid (fewd_any w1 s n A N c ds HN.out hm ⟨fun hp => by obtain ⟨b, off, e, hB, hc⟩ := hx1.1.cells hp; exact ⟨b, off, e, Nat.lt_of_lt_of_le hB hsz1, hc⟩, fun i hi => by have h := hx1.1.ok i hi; exact ⟨h.ex.more hsz1, h.le, h.no, h.n64⟩⟩)
  clear hb1 CA hx1 hsz1
  go_wp2_with fail
  refine CF.out.mono ?_
  rintro e w2 ⟨fb, rfl, hf, hb2⟩
  have HB2 := Lib.hid (HB1.out.trans (hb2.mono HB1.out.size))
  have HFD := Lib.hid hf
  clear hf hb2 CF q0 q1
  cases fb with
  | false =>
    have HE := Lib.hid (HX.out w2 HB2.out).2.2
    go_wp2
    go_ret
    exact ⟨rfl, HE.out⟩
  | true =>
    have hfd := HFD.out.1 rfl
    have hN30 : N ≤ 30 := by have := hfd.2.2.1; rw [HN.out] at this; exact this
    have hs100 : s ≤ 100 := hfd.2.1
    have hn100 : n < 0 ∨ n ≤ 100 := hfd.1
    have HALLF := Lib.hid hfd.2.2.2
    clear hfd HFD
    obtain ⟨w2', hw2'⟩ : ∃ w2', w2' = w2.alloc (.cells #[.slice A0 N0 c0] 23) := ⟨_, rfl⟩
    have hb2' : Below w2.heap.size w2 w2' := hw2' ▸ below_alloc w2 _
    have hs2' : w2'.heap.size = w2.heap.size + 1 := by rw [hw2']; simp
    have hx2 := HX.out w2' (HB2.out.trans (hb2'.mono HB2.out.size))
    have CF2 := Lib.hid (few_any w2' w2.heap.size 1 [⟨A0, c0, us⟩] rfl (by omega) (by omega) (fun i p hp => by
      match i with
      | 0 => simp at hp; subst hp; rw [hw2', World.cell?_alloc_new]; rw [← HL0.out]; rfl
      | i + 1 => simp at hp) (fun p hp => by rw [List.mem_singleton] at hp; subst hp; exact hx2.2.1.more hx2.2.2.size))
    have HB2' := Lib.hid (HB2.out.trans (hb2'.mono HB2.out.size))
    have HW2' := Lib.hid hw2'
    clear hb2' hs2' hx2 hw2'
    go_wp2_with fail
    rw [← HW2'.out]
    refine CF2.out.mono ?_
    rintro e w3 ⟨fb2, rfl, hf2, hb3⟩
    have HB3 := Lib.hid (HB2'.out.trans (hb3.mono HB2'.out.size))
    have HF2 := Lib.hid hf2
    clear hf2 hb3 CF2
    cases fb2 with
    | false =>
      have HE := Lib.hid (HX.out w3 HB3.out).2.2
      go_wp2
      go_ret
      exact ⟨rfl, HE.out⟩
    | true =>
      have HFU := Lib.hid (show FewE us from HF2.out.1 rfl ⟨A0, c0, us⟩ (List.mem_singleton.2 rfl))
      have hu20 : N0 ≤ 20 := by have := HFU.out.1; rw [HL0.out] at this; exact this
      obtain ⟨q0, q1⟩ := HBX.out w3 HB3.out
      have hx3 := HX.out w3 HB3.out
      have CO := Lib.hid (aof_any w3 (fun _ => False) (fun _ e => e.elim) s n HI.out A0 N0 c0 us HL0.out (by omega) (hx3.2.1.more hx3.2.2.size))
      clear hx3 HF2
      go_wp2_with fail
      refine CO.out.mono ?_
      rintro e w4 ⟨hb4, hcase⟩
      have HB4 := Lib.hid (HB3.out.trans (hb4.mono HB3.out.size))
      have CM := Lib.hid (rmay_any w4 s n HI.out)
      clear q0 q1
      obtain ⟨q0, q1⟩ := HBX.out w4 HB4.out
      have HSZ4 := Lib.hid (show w3.heap.size ≤ w4.heap.size ∧ w.heap.size ≤ w3.heap.size from ⟨hb4.size, (HX.out w3 HB3.out).2.2.size⟩)
      clear hb4 CO
      rcases hcase with ⟨hok, g, F, rfl, hg, hr, hF, _, hP⟩ | ⟨hng, rfl⟩
      · have hmay := hok.1
        have HOK := Lib.hid hok
        have hm1 := (may_iff (s, n)).1 hmay
        dsimp only at hm1
        obtain ⟨m, rfl⟩ : ∃ m : Nat, n = (m : Int) := ⟨n.toNat, by omega⟩
        have h1m : 1 ≤ m := by omega
        have hm100 : m ≤ 100 := by omega
        have hs0 : 0 ≤ s := hm1.1
        have HMAY := Lib.hid hmay
        rw [hmay] at CM
        have HP := Lib.hid (And.intro hP (And.intro hr (And.intro hF hg)))
        clear hok hm1 hmay hP hr hF hg hn100
        go_wp2_with fail
        refine CM.out.mono ?_
        rintro e w5 ⟨rfl, hb5⟩
        have HB5 := Lib.hid (HB4.out.trans (hb5.mono HB4.out.size))
        have HP5 := Lib.hid (HP.out.1.below hb5)
        have CN := Lib.hid (rnew_any w5 s m h1m (by omega))
        clear q0 q1
        obtain ⟨q0, q1⟩ := HBX.out w5 HB5.out
        have hsz5 := hb5.size
        clear hb5 CM
        go_wp2_with fail
        refine CN.out.mono ?_
        rintro e w6 ⟨g2, r, rfl, hR, hg2, hr2, hb6⟩
        have HB6 := Lib.hid (HB5.out.trans (hb6.mono HB5.out.size))
        have HR6 := Lib.hid hR
        have hx6 := HX.out w6 HB6.out
        have CG := Lib.hid (rgive_any hR (by omega) A0 N0 c0 us HL0.out (by omega) (fun hc => few_tot HFU.out hc) (hx6.2.1.more hx6.2.2.size) false)
        have HN2 := Lib.hid (show w5.heap.size ≤ g2 ∧ w5.heap.size ≤ r ∧ g < w5.heap.size from ⟨hg2, hr2, HP5.out.gl⟩)
        have HB56 := Lib.hid hb6
        clear hR hg2 hr2 hb6 CN hx6 q0 q1
        go_wp2_with fail
        refine CG.out.mono ?_
        rintro e w7 ⟨hO, ⟨hrg, rfl, hR7⟩ | ⟨hnrg, _, _⟩⟩
        · have HS0 := Lib.hid (show PlS w w7 g g2 r s (m : Int) F (setAll s false (secs us) (List.replicate m true)) from by
            obtain ⟨n1, n2, n3⟩ := HN2.out
            have hz := HSZ4.out
            have hx5 := (HX.out w5 HB5.out).2.2
            have hb67 : Below w5.heap.size w5 w7 := HB56.out.trans (hO.below n2 HB56.out.size)
            have hrl := HR6.out.rl
            have hO7 := hO.size
            refine ⟨HP5.out.forbid (fun k hk => ⟨by omega, .inr (by omega)⟩) hb67, hR7, pol_first s m us F hrg HP.out.2.1 HP.out.2.2.1, by rw [length_setAll, List.length_replicate], hx5.trans (hb67.mono hx5.size), by have := HP.out.2.2.2; omega, by have := hx5.size; omega, by omega, by omega⟩)
          clear hO hrg hR7 CG
          go_wp2
          go_loopw [75] (fun i wr => ∃ (k : Nat) (F : List (Int × Int)) (fs : List Bool), k ≤ N ∧ i = .int .i64 (k : Int) ∧ PlS w wr g g2 r s (m : Int) F fs) (fun i _ => N - (intOf i).toNat)
          case atStart => exact ⟨0, _, _, Nat.zero_le _, rfl, HS0.out⟩
          case round =>
            obtain ⟨k, F, fs, hk, rfl, hS⟩ := hrel
            have HS := Lib.hid hS
            clear hS
            by_cases hlt : k < N
            · have hki : k < ds.length := by rw [HN.out]; exact hlt
              have HDK := Lib.hid (HALLF.out ds[k] (List.getElem_mem hki))
              obtain ⟨b, off, kd, nd, A', c', l, rfl, hb, hd, q0, q1, q2, hex, _, _, hn64⟩ := (HX0.out.below HS.out.below).at k hki
              rw [hd] at HDK
              have t1 : decide ((k : Int) < (N : Int)) = true := by simp; omega
              have wk : IntKind.i64.wrap ((k : Int) + 1) = (k : Int) + 1 := by rw [IntKind.wrap_i64]; omega
              obtain ⟨wa, hwa⟩ : ∃ wa, wa = wr.alloc (.cells #[.int .i64 kd, .int .i64 nd, .slice A' l.length c'] 39) := ⟨_, rfl⟩
              have HSA := Lib.hid (HS.out.keep (hwa ▸ below_alloc wr _))
              have HWA := Lib.hid hwa
              have p1 : wa.cell? ⟨wr.heap.size, 1, none⟩ = some (.int .i64 nd) := by rw [hwa, World.cell?_alloc_new]; rfl
              have p2 : wa.cell? ⟨wr.heap.size, 2, none⟩ = some (.slice A' l.length c') := by rw [hwa, World.cell?_alloc_new]; rfl
              have hwas : wa.heap.size = wr.heap.size + 1 := by rw [hwa]; simp
              have HEX := Lib.hid (show Exts wa wa.heap.size A' l from (hex.below ((hwa ▸ below_alloc wr _ : Below wr.heap.size wr wa).mono HS.out.below.size)).more HSA.out.below.size)
              have HDE := Lib.hid hex
              have hgx : g < wr.heap.size := HS.out.pool.gl
              have hrx : r < wr.heap.size := HS.out.ref.rl
              have HMF0 := Lib.hid ((right_iff F).1 HSA.out.pol.1).1
              have hFl0 : F.length ≤ 100 := by
                have h1 := length_le_total F HMF0.out
                have h2 := Pol.bound HSA.out.pol HSA.out.len
                omega
              have hT0 : total F ≤ 100 := by have h2 := Pol.bound HSA.out.pol HSA.out.len; omega
              have hfl0 : fs.length ≤ 1000 := by have h2 := HSA.out.len; omega
              clear hd hki hwa hex
              by_cases hkd : kd = 1
              · subst hkd
                have CT := Lib.hid (atake_any HSA.out.pool (by omega) HMF0.out nd hn64)
                generalize hLL : l.length = L at *
                go_wp2_with fail
                rw [← HWA.out]
                refine CT.out.mono ?_
                rintro e wc hTP
                obtain ⟨Ax, cx, rfl, hxx, hfx, hO1, hpl1⟩ := TakeP.both HSA.out.pol hTP
                have p1c : wc.cell? ⟨wr.heap.size, 1, none⟩ = some (.int .i64 nd) := (hO1.cell (p := ⟨wr.heap.size, 1, none⟩) (by show wr.heap.size < wa.heap.size; omega) (by show wr.heap.size ≠ g; omega)).trans p1
                have CR := Lib.hid (rtake_any (HSA.out.refAt hO1) (by omega) hfl0 nd hn64)
                have H1 := Lib.hid (And.intro hxx (And.intro hfx (And.intro hO1 hpl1)))
                clear hxx hfx hO1 hpl1 hTP CT
                go_wp2_with fail
                refine CR.out.mono ?_
                rintro e wd hTR
                obtain ⟨As, cs, rfl, hii, hO2, hR2⟩ := TakeR.both HSA.out.pol hTR
                obtain ⟨_, _, hch, hmx, htx⟩ := Pol.took HSA.out.pol nd
                have HSD := Lib.hid (HSA.out.took nd H1.out.2.2.1 H1.out.2.2.2 hO2 hR2)
                have HXD := Lib.hid (show Exts wd wd.heap.size Ax (tkH F nd) from (H1.out.1.only hO2 (Nat.le_refl _) (fun b hb => by have := H1.out.2.1 b hb; omega)).more hO2.size)
                have HID := Lib.hid hii
                have hhl : (tkH F nd).length ≤ 100 := by have h1 := length_le_total (tkH F nd) hmx; omega
                have hsl : (secs (tkH F nd)).length ≤ 100000 := by
                  have h1 := total_secs (tkH F nd) (fun x hx => by have := (may_iff x).1 (hmx x hx); omega)
                  omega
                have HMX := Lib.hid hmx
                have HCH := Lib.hid hch
                have tE : (((tkE F nd : Nat) : Int) != ((tkE F nd : Nat) : Int)) = false := by simp
                have CS := Lib.hid (rsectors_any wd Ax (tkH F nd).length cx (tkH F nd) rfl (by omega) hmx (by omega) HXD.out)
                clear hii hO2 hR2 hTR hch hmx htx CR p1 p1c p2
                generalize tkE F nd = er at *
                generalize tkF F nd = F1 at *
                generalize tkB F s fs nd = fs1 at *
                generalize tkH F nd = h at *
                go_wp2_with fail
                refine CS.out.mono ?_
                rintro e we ⟨v3, rfl, ho3, hb3⟩
                have HSE2 := Lib.hid (HSD.out.keep hb3)
                have HXE := Lib.hid (HXD.out.later hb3)
                have hz3 : ∀ z, z ∈ secs h → Z64 z := fun z hz => by
                  obtain ⟨x, hx1, hx2⟩ := (mem_secs z h).1 hz
                  have := (may_iff x).1 (HMX.out x hx1)
                  unfold In at hx2
                  unfold Z64; omega
                obtain ⟨A3, c3, rfl, _, _, hi3⟩ := ho3.shape
                have CI := Lib.hid (ints_any we A3 As (secs h).length c3 (secs h).length cs we.heap.size we.heap.size (secs h) (secs h) rfl rfl (by omega) (hi3 hz3) (HID.out.later hb3))
                rw [show decide (secs h = secs h) = true from by simp] at CI
                clear ho3 hb3 hi3 hz3 CS
                go_wp2_with fail
                refine CI.out.mono ?_
                rintro e wf ⟨rfl, q, rfl⟩
                have HSF2 := Lib.hid (HSE2.out.keep (below_drewN_self we q))
                have CC := Lib.hid (rchain_any (we.drewN q) Ax cx h.length h rfl (HXE.out.later (below_drewN_self we q)) (by omega))
                rw [HCH.out] at CC
                clear CI
                go_wp2_with fail
                refine CC.out.mono ?_
                rintro e wg ⟨rfl, hbg⟩
                have HSF := Lib.hid (HSF2.out.keep hbg)
                clear hbg CC
                have hbd := Pol.bound HSF.out.pol HSF.out.len
                have HMF := Lib.hid ((right_iff F1).1 HSF.out.pol.1).1
                have hFl : F1.length ≤ 100 := by have h1 := length_le_total F1 HMF.out; omega
                have hfl : fs1.length ≤ 1000 := by have h1 := HSF.out.len; omega
                have HSE := Lib.hid HSF.out.pol.secs
                have HTO := Lib.hid HSF.out.pol.total
                have htl : total F1 ≤ 100000 := by omega
                have CF1 := Lib.hid (afree_any HSF.out.pool (by omega))
                rw [totC_right HSF.out.pol.1, HTO.out] at CF1
                have hlf : (frs s fs1).length ≤ 1000 := by have h1 := length_frs fs1 s; omega
                obtain ⟨LF, hLF⟩ : ∃ LF, (frs s fs1).length = LF := ⟨_, rfl⟩
                rw [hLF] at CF1
                have HLF := Lib.hid hLF
                clear hLF hbd
                go_wp2_with fail
                refine CF1.out.mono ?_
                rintro e wg1 ⟨rfl, hbg1⟩
                have HS1 := Lib.hid (HSF.out.keep hbg1)
                have CL1 := Lib.hid (rlist_any HS1.out.ref (by omega) hfl)
                clear hbg1 CF1
                go_wp2_with fail
                refine CL1.out.mono ?_
                rintro e wg2 ⟨v1, rfl, ho1, hbg2⟩
                obtain ⟨A1', c1', rfl, _⟩ := ho1.shape
                rw [HLF.out]
                have HS2 := Lib.hid (HS1.out.keep hbg2)
                have CL2 := Lib.hid (alist_any HS2.out.pool (by omega))
                have tLL : ((LF : Int) != (LF : Int)) = false := by simp
                clear ho1 hbg2 CL1
                go_wp2_with fail
                refine CL2.out.mono ?_
                rintro e wg3 ⟨v2, rfl, ho2, hbg3⟩
                have HS3 := Lib.hid (HS2.out.keep hbg3)
                obtain ⟨A2, c2, rfl, _, _, _, hx2⟩ := ho2.shape
                have hx2 := hx2 fun x hx => i64_may (HMF.out x hx)
                have CS1 := Lib.hid (rsectors_any wg3 A2 F1.length c2 F1 rfl (by omega) HMF.out htl hx2)
                rw [HSE.out] at CS1
                clear ho2 hbg3 CL2 hx2
                go_wp2_with fail
                refine CS1.out.mono ?_
                rintro e wg4 ⟨v3, rfl, ho3, hbg4⟩
                have HS4 := Lib.hid (HS3.out.keep hbg4)
                have hz3 : ∀ z, z ∈ frs s fs1 → Z64 z := fun z hz => by
                  obtain ⟨h1, h2⟩ := isB_lt ((mem_frs fs1 s z).1 hz)
                  unfold Z64; omega
                have HZ3 := Lib.hid hz3
                obtain ⟨A3, c3, rfl, _, _, hi3⟩ := ho3.shape
                have HI3 := Lib.hid (hi3 hz3)
                have CL3 := Lib.hid (rlist_any HS4.out.ref (by omega) hfl)
                clear ho3 hbg4 CS1 hi3 hz3
                go_wp2_with fail
                refine CL3.out.mono ?_
                rintro e wg5 ⟨v4, rfl, ho4, hbg5⟩
                have HS5 := Lib.hid (HS4.out.keep hbg5)
                obtain ⟨A4, c4, rfl, _, _, hi4⟩ := ho4.shape
                have CI1 := Lib.hid (ints_any wg5 A3 A4 (frs s fs1).length c3 (frs s fs1).length c4 wg5.heap.size wg5.heap.size (frs s fs1) (frs s fs1) rfl rfl (by omega) (HI3.out.later hbg5) (hi4 HZ3.out))
                rw [show decide (frs s fs1 = frs s fs1) = true from by simp] at CI1
                clear ho4 hbg5 CL3 hi4
                go_wp2_with fail
                refine CI1.out.mono ?_
                rintro e wg6 ⟨rfl, q6, rfl⟩
                have HS6 := Lib.hid (HS5.out.keep (below_drewN_self wg5 q6))
                have CL4 := Lib.hid (alist_any HS6.out.pool (by omega))
                clear CI1
                go_wp2_with fail
                refine CL4.out.mono ?_
                rintro e wg7 ⟨v5, rfl, ho5, hbg7⟩
                have HS7 := Lib.hid (HS6.out.keep hbg7)
                obtain ⟨A5, c5, rfl, _, _, _, hx5⟩ := ho5.shape
                have CR := Lib.hid (rright_any wg7 A5 c5 F1.length F1 rfl (hx5 fun x hx => i64_may (HMF.out x hx)) (by omega))
                rw [HSF.out.pol.1] at CR
                clear ho5 hbg7 CL4 hx5
                go_wp2_with fail
                refine CR.out.mono ?_
                rintro e wg8 ⟨rfl, hbg8⟩
                have HS8 := Lib.hid (HS7.out.keep hbg8)
                clear hbg8 CR
                go_wp2
                go_roundw
                case rel => exact ⟨k + 1, _, _, by omega, by simp, HS8.out⟩
                case measure => simp [intOf]; omega
              · have t2 : (kd == (1 : Int)) = false := by simpa using hkd
                by_cases hkd2 : kd = 2
                · subst hkd2
                  have HSW := Lib.hid (HSA.out.keep (below_drew (Below.refl _ wa)))
                  have HEW := Lib.hid (show Exts wa.drew wa.drew.heap.size A' l from HEX.out.below (below_drew (Below.refl _ wa)))
                  have hll : l.length ≤ 20 := HDK.out.1
                  have p2d : wa.drew.cell? ⟨wr.heap.size, 2, none⟩ = some (.slice A' l.length c') := p2
                  have CG := Lib.hid (agive_any HSW.out.pool (by omega) (by simp) HSW.out.pol.1 (by rw [right_one]; exact HMAY.out) A' l.length c' l rfl (by omega) HEW.out)
                  have HTL := Lib.hid (show chain l = true → total l ≤ 100000 from few_tot HDK.out)
                  have HGR := Lib.hid (gv_rg HSA.out.pol HSA.out.len l)
                  generalize hLL : l.length = L at *
                  have HLL := Lib.hid hLL
                  clear hLL
                  by_cases hgv : gvOk F [(s, (m : Int))] l
                  · go_wp2
                    rw [← HWA.out]
                    refine wp_region_L [(7, (fun w' => w'.cell? ⟨wr.heap.size, 2, none⟩ = some (.slice A' L c')))] 9 #[false, false, false, false, false, false, false, false, false] (by kernel_rfl) (by rfl) (by kernel_rfl) (by intro p hp; simp only [List.mem_cons, List.not_mem_nil, or_false] at hp; rcases hp with rfl; exact p2d) (fun hHeld => ?_)
                    refine wpAnyL_take (i := 0) (v := ?_) rfl (by kernel_rfl) (by kernel_rfl) (by kernel_rfl) (by rfl) (fun _ _ _ h => h) (Or.inl ⟨by rfl, ?_⟩) hHeld (fun hHeld2 => ?_)
                    rotate_left
                    · (intro wz hSw; go_simp; try with_reducible rfl)
                    clear hHeld; have hHeld := hHeld2; clear hHeld2
                    try simp only [List.getElem_toArray, List.getElem_cons_zero, Act.put, List.setIfInBounds_toArray, List.set_cons_zero, List.set_cons_succ]
                    refine wpAnyL_take (i := 1) (v := ?_) rfl (by kernel_rfl) (by kernel_rfl) (by kernel_rfl) (by rfl) (fun _ _ _ h => h) (Or.inl ⟨by rfl, ?_⟩) hHeld (fun hHeld2 => ?_)
                    rotate_left
                    · (intro wz hSw; go_simp; try with_reducible rfl)
                    clear hHeld; have hHeld := hHeld2; clear hHeld2
                    try simp only [List.getElem_toArray, List.getElem_cons_zero, List.getElem_cons_succ, Act.put, List.setIfInBounds_toArray, List.set_cons_zero, List.set_cons_succ]
                    refine wpAnyL_take (i := 2) (v := ?_) rfl (by kernel_rfl) (by kernel_rfl) (by kernel_rfl) (by rfl) (fun _ _ _ h => h) (Or.inl ⟨by rfl, ?_⟩) hHeld (fun hHeld2 => ?_)
                    rotate_left
                    · (intro wz hSw; have hq : wz.cell? ⟨wr.heap.size, 2, none⟩ = some (.slice A' L c') := hSw.get _ (List.Mem.head _) 3 (by kernel_rfl); go_simp; try with_reducible rfl)
                    clear hHeld; have hHeld := hHeld2; clear hHeld2
                    try simp only [List.getElem_toArray, List.getElem_cons_zero, List.getElem_cons_succ, Act.put, List.setIfInBounds_toArray, List.set_cons_zero, List.set_cons_succ]
                    refine wpAnyL_take (i := 4) (v := ?_) rfl (by kernel_rfl) (by kernel_rfl) (by kernel_rfl) (by rfl) (fun _ _ _ h => h) (Or.inl ⟨by rfl, ?_⟩) hHeld (fun hHeld2 => ?_)
                    rotate_left
                    · (intro wz hSw; go_simp; try with_reducible rfl)
                    clear hHeld; have hHeld := hHeld2; clear hHeld2
                    try simp only [List.getElem_toArray, List.getElem_cons_zero, List.getElem_cons_succ, Act.put, List.setIfInBounds_toArray, List.set_cons_zero, List.set_cons_succ]
                    refine wpAnyL_take (i := 5) (v := ?_) rfl (by kernel_rfl) (by kernel_rfl) (by kernel_rfl) (by rfl) (fun _ _ _ h => h) (Or.inl ⟨by rfl, ?_⟩) hHeld (fun hHeld2 => ?_)
                    rotate_left
                    · (intro wz hSw; go_simp; try with_reducible rfl)
                    clear hHeld; have hHeld := hHeld2; clear hHeld2
                    try simp only [List.getElem_toArray, List.getElem_cons_zero, List.getElem_cons_succ, Act.put, List.setIfInBounds_toArray, List.set_cons_zero, List.set_cons_succ]
                    refine wpAnyL_take (i := 6) (v := ?_) rfl (by kernel_rfl) (by kernel_rfl) (by kernel_rfl) (by rfl) (fun _ _ _ h => h) (Or.inl ⟨by rfl, ?_⟩) hHeld (fun hHeld2 => ?_)
                    rotate_left
                    · (intro wz hSw; have hq : wz.cell? ⟨wr.heap.size, 2, none⟩ = some (.slice A' L c') := hSw.get _ (List.Mem.head _) 3 (by kernel_rfl); go_simp; try with_reducible rfl)
                    clear hHeld; have hHeld := hHeld2; clear hHeld2
                    try simp only [List.getElem_toArray, List.getElem_cons_zero, List.getElem_cons_succ, Act.put, List.setIfInBounds_toArray, List.set_cons_zero, List.set_cons_succ]
                    refine wpAnyL_one (i := 3) (by kernel_rfl) rfl rfl hHeld (fun K hK => ?_)
                    go_simp
                    refine CG.out.mono ?_
                    rintro en wc ⟨er, rfl, hO1, ⟨rfl, _, F', hF1, hF2, hF3, hpl⟩ | ⟨rfl, hng, _⟩⟩
                    · have p2c : wc.cell? ⟨wr.heap.size, 2, none⟩ = some (.slice A' L c') := (hO1.cell (p := ⟨wr.heap.size, 2, none⟩) (by show wr.heap.size < wa.heap.size; omega) (by show wr.heap.size ≠ g; omega)).trans p2d
                      have HEC := Lib.hid (show Exts wc wc.heap.size A' l from (HEW.out.touch (G := fun k => k = g) ⟨hO1.os, hO1.tape, hO1.output, hO1.size, hO1.block⟩ (Nat.le_refl _) (fun hp b hb e => by
                        obtain ⟨b', hb', hlt'⟩ := HDE.out.block hp
                        rw [hb] at hb'
                        simp only [Option.some.injEq] at hb'
                        have := HS.out.lg
                        omega)).more hO1.size)
                      have HO1 := Lib.hid hO1
                      have HPL := Lib.hid hpl
                      have CR := Lib.hid (rgive_any (HSW.out.refAt hO1) (by omega) A' L c' l HLL.out (by omega) HTL.out HEC.out true)
                      have HF' := Lib.hid (And.intro hF1 hF2)
                      clear hF1 hF2 hF3
                      clear hO1 hpl
                      refine hK.out _ _ (by intro p hp hl; simp only [List.mem_cons, List.not_mem_nil, or_false] at hp; rcases hp with rfl; exact p2c) (fun hHeld2 => ?_)
                      clear hHeld hK K ; have hHeld := hHeld2; clear hHeld2
                      try simp only [List.getElem_toArray, List.getElem_cons_zero, List.getElem_cons_succ, Act.put, List.setIfInBounds_toArray, List.set_cons_zero, List.set_cons_succ]
                      refine wpAnyL_one (i := 7) (by kernel_rfl) rfl rfl hHeld (fun K hK => ?_)
                      go_simp
                      refine CR.out.mono ?_
                      rintro en wd ⟨hO2, ⟨hrg, rfl, hR2⟩ | ⟨hnrg, _, _⟩⟩
                      · have HSF := Lib.hid (HSW.out.gave HO1.out HPL.out hO2 hR2 (Pol.gave HSW.out.pol hrg HF'.out.1 HF'.out.2) (length_setAll _ _ _ _))
                        clear hO2 hrg hR2
                        refine hK.out _ _ (by intro p hp hl; simp only [List.mem_cons, List.not_mem_nil, or_false] at hp; rcases hp with rfl; exact Bool.noConfusion (hl.symm.trans (show _ = true by kernel_rfl))) (fun hHeld2 => ?_)
                        clear hHeld hK K ; have hHeld := hHeld2; clear hHeld2
                        try simp only [List.getElem_toArray, List.getElem_cons_zero, List.getElem_cons_succ, Act.put, List.setIfInBounds_toArray, List.set_cons_zero, List.set_cons_succ]
                        refine wpAnyL_take (i := 8) (v := ?_) rfl (by kernel_rfl) (by kernel_rfl) (by kernel_rfl) (by rfl) (fun _ _ _ h => h) (Or.inl ⟨by rfl, ?_⟩) hHeld (fun hHeld2 => ?_)
                        rotate_left
                        · (intro wz hSw; go_simp; try with_reducible rfl)
                        clear hHeld; have hHeld := hHeld2; clear hHeld2
                        try simp only [List.getElem_toArray, List.getElem_cons_zero, List.getElem_cons_succ, Act.put, List.setIfInBounds_toArray, List.set_cons_zero, List.set_cons_succ]
                        refine wpAnyL_done (by kernel_rfl) ?_ _
                        clear p2c p2d
                        generalize setAll s true (secs l) fs = fs1 at *
                        have hbd := Pol.bound HSF.out.pol HSF.out.len
                        have HMF := Lib.hid ((right_iff F').1 HSF.out.pol.1).1
                        have hFl : F'.length ≤ 100 := by have h1 := length_le_total F' HMF.out; omega
                        have hfl : fs1.length ≤ 1000 := by have h1 := HSF.out.len; omega
                        have HSE := Lib.hid HSF.out.pol.secs
                        have HTO := Lib.hid HSF.out.pol.total
                        have htl : total F' ≤ 100000 := by omega
                        have CF1 := Lib.hid (afree_any HSF.out.pool (by omega))
                        rw [totC_right HSF.out.pol.1, HTO.out] at CF1
                        have hlf : (frs s fs1).length ≤ 1000 := by have h1 := length_frs fs1 s; omega
                        obtain ⟨LF, hLF⟩ : ∃ LF, (frs s fs1).length = LF := ⟨_, rfl⟩
                        rw [hLF] at CF1
                        have HLF := Lib.hid hLF
                        clear hLF hbd
                        go_wp2_with fail
                        refine CF1.out.mono ?_
                        rintro e wg1 ⟨rfl, hbg1⟩
                        have HS1 := Lib.hid (HSF.out.keep hbg1)
                        have CL1 := Lib.hid (rlist_any HS1.out.ref (by omega) hfl)
                        clear hbg1 CF1
                        go_wp2_with fail
                        refine CL1.out.mono ?_
                        rintro e wg2 ⟨v1, rfl, ho1, hbg2⟩
                        obtain ⟨A1', c1', rfl, _⟩ := ho1.shape
                        rw [HLF.out]
                        have HS2 := Lib.hid (HS1.out.keep hbg2)
                        have CL2 := Lib.hid (alist_any HS2.out.pool (by omega))
                        have tLL : ((LF : Int) != (LF : Int)) = false := by simp
                        clear ho1 hbg2 CL1
                        go_wp2_with fail
                        refine CL2.out.mono ?_
                        rintro e wg3 ⟨v2, rfl, ho2, hbg3⟩
                        have HS3 := Lib.hid (HS2.out.keep hbg3)
                        obtain ⟨A2, c2, rfl, _, _, _, hx2⟩ := ho2.shape
                        have hx2 := hx2 fun x hx => i64_may (HMF.out x hx)
                        have CS1 := Lib.hid (rsectors_any wg3 A2 F'.length c2 F' rfl (by omega) HMF.out htl hx2)
                        rw [HSE.out] at CS1
                        clear ho2 hbg3 CL2 hx2
                        go_wp2_with fail
                        refine CS1.out.mono ?_
                        rintro e wg4 ⟨v3, rfl, ho3, hbg4⟩
                        have HS4 := Lib.hid (HS3.out.keep hbg4)
                        have hz3 : ∀ z, z ∈ frs s fs1 → Z64 z := fun z hz => by
                          obtain ⟨h1, h2⟩ := isB_lt ((mem_frs fs1 s z).1 hz)
                          unfold Z64; omega
                        have HZ3 := Lib.hid hz3
                        obtain ⟨A3, c3, rfl, _, _, hi3⟩ := ho3.shape
                        have HI3 := Lib.hid (hi3 hz3)
                        have CL3 := Lib.hid (rlist_any HS4.out.ref (by omega) hfl)
                        clear ho3 hbg4 CS1 hi3 hz3
                        go_wp2_with fail
                        refine CL3.out.mono ?_
                        rintro e wg5 ⟨v4, rfl, ho4, hbg5⟩
                        have HS5 := Lib.hid (HS4.out.keep hbg5)
                        obtain ⟨A4, c4, rfl, _, _, hi4⟩ := ho4.shape
                        have CI1 := Lib.hid (ints_any wg5 A3 A4 (frs s fs1).length c3 (frs s fs1).length c4 wg5.heap.size wg5.heap.size (frs s fs1) (frs s fs1) rfl rfl (by omega) (HI3.out.later hbg5) (hi4 HZ3.out))
                        rw [show decide (frs s fs1 = frs s fs1) = true from by simp] at CI1
                        clear ho4 hbg5 CL3 hi4
                        go_wp2_with fail
                        refine CI1.out.mono ?_
                        rintro e wg6 ⟨rfl, q6, rfl⟩
                        have HS6 := Lib.hid (HS5.out.keep (below_drewN_self wg5 q6))
                        have CL4 := Lib.hid (alist_any HS6.out.pool (by omega))
                        clear CI1
                        go_wp2_with fail
                        refine CL4.out.mono ?_
                        rintro e wg7 ⟨v5, rfl, ho5, hbg7⟩
                        have HS7 := Lib.hid (HS6.out.keep hbg7)
                        obtain ⟨A5, c5, rfl, _, _, _, hx5⟩ := ho5.shape
                        have CR := Lib.hid (rright_any wg7 A5 c5 F'.length F' rfl (hx5 fun x hx => i64_may (HMF.out x hx)) (by omega))
                        rw [HSF.out.pol.1] at CR
                        clear ho5 hbg7 CL4 hx5
                        go_wp2_with fail
                        refine CR.out.mono ?_
                        rintro e wg8 ⟨rfl, hbg8⟩
                        have HS8 := Lib.hid (HS7.out.keep hbg8)
                        clear hbg8 CR
                        go_wp2
                        go_roundw
                        case rel => exact ⟨k + 1, _, _, by omega, by simp, HS8.out⟩
                        case measure => simp [intOf]; omega
                      · exact (hnrg (HGR.out.1 hgv)).elim
                    · exact (hng hgv).elim
                  · go_wp2
                    rw [← HWA.out]
                    refine wp_region_L [(7, (fun w' => w'.cell? ⟨wr.heap.size, 2, none⟩ = some (.slice A' L c')))] 9 #[false, false, false, false, false, false, false, false, false] (by kernel_rfl) (by rfl) (by kernel_rfl) (by intro p hp; simp only [List.mem_cons, List.not_mem_nil, or_false] at hp; rcases hp with rfl; exact p2d) (fun hHeld => ?_)
                    refine wpAnyL_take (i := 0) (v := ?_) rfl (by kernel_rfl) (by kernel_rfl) (by kernel_rfl) (by rfl) (fun _ _ _ h => h) (Or.inl ⟨by rfl, ?_⟩) hHeld (fun hHeld2 => ?_)
                    rotate_left
                    · (intro wz hSw; go_simp; try with_reducible rfl)
                    clear hHeld; have hHeld := hHeld2; clear hHeld2
                    try simp only [List.getElem_toArray, List.getElem_cons_zero, Act.put, List.setIfInBounds_toArray, List.set_cons_zero, List.set_cons_succ]
                    refine wpAnyL_take (i := 1) (v := ?_) rfl (by kernel_rfl) (by kernel_rfl) (by kernel_rfl) (by rfl) (fun _ _ _ h => h) (Or.inl ⟨by rfl, ?_⟩) hHeld (fun hHeld2 => ?_)
                    rotate_left
                    · (intro wz hSw; go_simp; try with_reducible rfl)
                    clear hHeld; have hHeld := hHeld2; clear hHeld2
                    try simp only [List.getElem_toArray, List.getElem_cons_zero, List.getElem_cons_succ, Act.put, List.setIfInBounds_toArray, List.set_cons_zero, List.set_cons_succ]
                    refine wpAnyL_take (i := 2) (v := ?_) rfl (by kernel_rfl) (by kernel_rfl) (by kernel_rfl) (by rfl) (fun _ _ _ h => h) (Or.inl ⟨by rfl, ?_⟩) hHeld (fun hHeld2 => ?_)
                    rotate_left
                    · (intro wz hSw; have hq : wz.cell? ⟨wr.heap.size, 2, none⟩ = some (.slice A' L c') := hSw.get _ (List.Mem.head _) 3 (by kernel_rfl); go_simp; try with_reducible rfl)
                    clear hHeld; have hHeld := hHeld2; clear hHeld2
                    try simp only [List.getElem_toArray, List.getElem_cons_zero, List.getElem_cons_succ, Act.put, List.setIfInBounds_toArray, List.set_cons_zero, List.set_cons_succ]
                    refine wpAnyL_take (i := 4) (v := ?_) rfl (by kernel_rfl) (by kernel_rfl) (by kernel_rfl) (by rfl) (fun _ _ _ h => h) (Or.inl ⟨by rfl, ?_⟩) hHeld (fun hHeld2 => ?_)
                    rotate_left
                    · (intro wz hSw; go_simp; try with_reducible rfl)
                    clear hHeld; have hHeld := hHeld2; clear hHeld2
                    try simp only [List.getElem_toArray, List.getElem_cons_zero, List.getElem_cons_succ, Act.put, List.setIfInBounds_toArray, List.set_cons_zero, List.set_cons_succ]
                    refine wpAnyL_take (i := 5) (v := ?_) rfl (by kernel_rfl) (by kernel_rfl) (by kernel_rfl) (by rfl) (fun _ _ _ h => h) (Or.inl ⟨by rfl, ?_⟩) hHeld (fun hHeld2 => ?_)
                    rotate_left
                    · (intro wz hSw; go_simp; try with_reducible rfl)
                    clear hHeld; have hHeld := hHeld2; clear hHeld2
                    try simp only [List.getElem_toArray, List.getElem_cons_zero, List.getElem_cons_succ, Act.put, List.setIfInBounds_toArray, List.set_cons_zero, List.set_cons_succ]
                    refine wpAnyL_take (i := 6) (v := ?_) rfl (by kernel_rfl) (by kernel_rfl) (by kernel_rfl) (by rfl) (fun _ _ _ h => h) (Or.inl ⟨by rfl, ?_⟩) hHeld (fun hHeld2 => ?_)
                    rotate_left
                    · (intro wz hSw; have hq : wz.cell? ⟨wr.heap.size, 2, none⟩ = some (.slice A' L c') := hSw.get _ (List.Mem.head _) 3 (by kernel_rfl); go_simp; try with_reducible rfl)
                    clear hHeld; have hHeld := hHeld2; clear hHeld2
                    try simp only [List.getElem_toArray, List.getElem_cons_zero, List.getElem_cons_succ, Act.put, List.setIfInBounds_toArray, List.set_cons_zero, List.set_cons_succ]
                    refine wpAnyL_one (i := 3) (by kernel_rfl) rfl rfl hHeld (fun K hK => ?_)
                    go_simp
                    refine CG.out.mono ?_
                    rintro en wc ⟨er, rfl, hO1, ⟨rfl, hg, _⟩ | ⟨rfl, _, hpl⟩⟩
                    · exact (hgv hg).elim
                    · have p2c : wc.cell? ⟨wr.heap.size, 2, none⟩ = some (.slice A' L c') := (hO1.cell (p := ⟨wr.heap.size, 2, none⟩) (by show wr.heap.size < wa.heap.size; omega) (by show wr.heap.size ≠ g; omega)).trans p2d
                      have HEC := Lib.hid (show Exts wc wc.heap.size A' l from (HEW.out.touch (G := fun k => k = g) ⟨hO1.os, hO1.tape, hO1.output, hO1.size, hO1.block⟩ (Nat.le_refl _) (fun hp b hb e => by
                        obtain ⟨b', hb', hlt'⟩ := HDE.out.block hp
                        rw [hb] at hb'
                        simp only [Option.some.injEq] at hb'
                        have := HS.out.lg
                        omega)).more hO1.size)
                      have HO1 := Lib.hid hO1
                      have HPL := Lib.hid hpl
                      have CR := Lib.hid (rgive_any (HSW.out.refAt hO1) (by omega) A' L c' l HLL.out (by omega) HTL.out HEC.out true)
                      clear hO1 hpl
                      refine hK.out _ _ (by intro p hp hl; simp only [List.mem_cons, List.not_mem_nil, or_false] at hp; rcases hp with rfl; exact p2c) (fun hHeld2 => ?_)
                      clear hHeld hK K ; have hHeld := hHeld2; clear hHeld2
                      try simp only [List.getElem_toArray, List.getElem_cons_zero, List.getElem_cons_succ, Act.put, List.setIfInBounds_toArray, List.set_cons_zero, List.set_cons_succ]
                      refine wpAnyL_one (i := 7) (by kernel_rfl) rfl rfl hHeld (fun K hK => ?_)
                      go_simp
                      refine CR.out.mono ?_
                      rintro en wd ⟨hO2, ⟨hrg, _, _⟩ | ⟨hnrg, rfl, hR2⟩⟩
                      · exact (hgv (HGR.out.2 hrg)).elim
                      · have HSF := Lib.hid (HSW.out.gave HO1.out HPL.out hO2 hR2 HSW.out.pol rfl)
                        clear hO2 hnrg hR2
                        refine hK.out _ _ (by intro p hp hl; simp only [List.mem_cons, List.not_mem_nil, or_false] at hp; rcases hp with rfl; exact Bool.noConfusion (hl.symm.trans (show _ = true by kernel_rfl))) (fun hHeld2 => ?_)
                        clear hHeld hK K ; have hHeld := hHeld2; clear hHeld2
                        try simp only [List.getElem_toArray, List.getElem_cons_zero, List.getElem_cons_succ, Act.put, List.setIfInBounds_toArray, List.set_cons_zero, List.set_cons_succ]
                        refine wpAnyL_take (i := 8) (v := ?_) rfl (by kernel_rfl) (by kernel_rfl) (by kernel_rfl) (by rfl) (fun _ _ _ h => h) (Or.inl ⟨by rfl, ?_⟩) hHeld (fun hHeld2 => ?_)
                        rotate_left
                        · (intro wz hSw; go_simp; try with_reducible rfl)
                        clear hHeld; have hHeld := hHeld2; clear hHeld2
                        try simp only [List.getElem_toArray, List.getElem_cons_zero, List.getElem_cons_succ, Act.put, List.setIfInBounds_toArray, List.set_cons_zero, List.set_cons_succ]
                        refine wpAnyL_done (by kernel_rfl) ?_ _
                        clear p2c p2d
                        have hbd := Pol.bound HSF.out.pol HSF.out.len
                        have HMF := Lib.hid ((right_iff F).1 HSF.out.pol.1).1
                        have hFl : F.length ≤ 100 := by have h1 := length_le_total F HMF.out; omega
                        have hfl : fs.length ≤ 1000 := by have h1 := HSF.out.len; omega
                        have HSE := Lib.hid HSF.out.pol.secs
                        have HTO := Lib.hid HSF.out.pol.total
                        have htl : total F ≤ 100000 := by omega
                        have CF1 := Lib.hid (afree_any HSF.out.pool (by omega))
                        rw [totC_right HSF.out.pol.1, HTO.out] at CF1
                        have hlf : (frs s fs).length ≤ 1000 := by have h1 := length_frs fs s; omega
                        obtain ⟨LF, hLF⟩ : ∃ LF, (frs s fs).length = LF := ⟨_, rfl⟩
                        rw [hLF] at CF1
                        have HLF := Lib.hid hLF
                        clear hLF hbd
                        go_wp2_with fail
                        refine CF1.out.mono ?_
                        rintro e wg1 ⟨rfl, hbg1⟩
                        have HS1 := Lib.hid (HSF.out.keep hbg1)
                        have CL1 := Lib.hid (rlist_any HS1.out.ref (by omega) hfl)
                        clear hbg1 CF1
                        go_wp2_with fail
                        refine CL1.out.mono ?_
                        rintro e wg2 ⟨v1, rfl, ho1, hbg2⟩
                        obtain ⟨A1', c1', rfl, _⟩ := ho1.shape
                        rw [HLF.out]
                        have HS2 := Lib.hid (HS1.out.keep hbg2)
                        have CL2 := Lib.hid (alist_any HS2.out.pool (by omega))
                        have tLL : ((LF : Int) != (LF : Int)) = false := by simp
                        clear ho1 hbg2 CL1
                        go_wp2_with fail
                        refine CL2.out.mono ?_
                        rintro e wg3 ⟨v2, rfl, ho2, hbg3⟩
                        have HS3 := Lib.hid (HS2.out.keep hbg3)
                        obtain ⟨A2, c2, rfl, _, _, _, hx2⟩ := ho2.shape
                        have hx2 := hx2 fun x hx => i64_may (HMF.out x hx)
                        have CS1 := Lib.hid (rsectors_any wg3 A2 F.length c2 F rfl (by omega) HMF.out htl hx2)
                        rw [HSE.out] at CS1
                        clear ho2 hbg3 CL2 hx2
                        go_wp2_with fail
                        refine CS1.out.mono ?_
                        rintro e wg4 ⟨v3, rfl, ho3, hbg4⟩
                        have HS4 := Lib.hid (HS3.out.keep hbg4)
                        have hz3 : ∀ z, z ∈ frs s fs → Z64 z := fun z hz => by
                          obtain ⟨h1, h2⟩ := isB_lt ((mem_frs fs s z).1 hz)
                          unfold Z64; omega
                        have HZ3 := Lib.hid hz3
                        obtain ⟨A3, c3, rfl, _, _, hi3⟩ := ho3.shape
                        have HI3 := Lib.hid (hi3 hz3)
                        have CL3 := Lib.hid (rlist_any HS4.out.ref (by omega) hfl)
                        clear ho3 hbg4 CS1 hi3 hz3
                        go_wp2_with fail
                        refine CL3.out.mono ?_
                        rintro e wg5 ⟨v4, rfl, ho4, hbg5⟩
                        have HS5 := Lib.hid (HS4.out.keep hbg5)
                        obtain ⟨A4, c4, rfl, _, _, hi4⟩ := ho4.shape
                        have CI1 := Lib.hid (ints_any wg5 A3 A4 (frs s fs).length c3 (frs s fs).length c4 wg5.heap.size wg5.heap.size (frs s fs) (frs s fs) rfl rfl (by omega) (HI3.out.later hbg5) (hi4 HZ3.out))
                        rw [show decide (frs s fs = frs s fs) = true from by simp] at CI1
                        clear ho4 hbg5 CL3 hi4
                        go_wp2_with fail
                        refine CI1.out.mono ?_
                        rintro e wg6 ⟨rfl, q6, rfl⟩
                        have HS6 := Lib.hid (HS5.out.keep (below_drewN_self wg5 q6))
                        have CL4 := Lib.hid (alist_any HS6.out.pool (by omega))
                        clear CI1
                        go_wp2_with fail
                        refine CL4.out.mono ?_
                        rintro e wg7 ⟨v5, rfl, ho5, hbg7⟩
                        have HS7 := Lib.hid (HS6.out.keep hbg7)
                        obtain ⟨A5, c5, rfl, _, _, _, hx5⟩ := ho5.shape
                        have CR := Lib.hid (rright_any wg7 A5 c5 F.length F rfl (hx5 fun x hx => i64_may (HMF.out x hx)) (by omega))
                        rw [HSF.out.pol.1] at CR
                        clear ho5 hbg7 CL4 hx5
                        go_wp2_with fail
                        refine CR.out.mono ?_
                        rintro e wg8 ⟨rfl, hbg8⟩
                        have HS8 := Lib.hid (HS7.out.keep hbg8)
                        clear hbg8 CR
                        go_wp2
                        go_roundw
                        case rel => exact ⟨k + 1, _, _, by omega, by simp, HS8.out⟩
                        case measure => simp [intOf]; omega
                · have t3 : (kd == (2 : Int)) = false := by simpa using hkd2
                  have HSF := HSA
                  go_wp2_with fail
                  rw [← HWA.out]
                  have hbd := Pol.bound HSF.out.pol HSF.out.len
                  have HMF := Lib.hid ((right_iff F).1 HSF.out.pol.1).1
                  have hFl : F.length ≤ 100 := by have h1 := length_le_total F HMF.out; omega
                  have hfl : fs.length ≤ 1000 := by have h1 := HSF.out.len; omega
                  have HSE := Lib.hid HSF.out.pol.secs
                  have HTO := Lib.hid HSF.out.pol.total
                  have htl : total F ≤ 100000 := by omega
                  have CF1 := Lib.hid (afree_any HSF.out.pool (by omega))
                  rw [totC_right HSF.out.pol.1, HTO.out] at CF1
                  have hlf : (frs s fs).length ≤ 1000 := by have h1 := length_frs fs s; omega
                  obtain ⟨LF, hLF⟩ : ∃ LF, (frs s fs).length = LF := ⟨_, rfl⟩
                  rw [hLF] at CF1
                  have HLF := Lib.hid hLF
                  clear hLF hbd
                  go_wp2_with fail
                  refine CF1.out.mono ?_
                  rintro e wg1 ⟨rfl, hbg1⟩
                  have HS1 := Lib.hid (HSF.out.keep hbg1)
                  have CL1 := Lib.hid (rlist_any HS1.out.ref (by omega) hfl)
                  clear hbg1 CF1
                  go_wp2_with fail
                  refine CL1.out.mono ?_
                  rintro e wg2 ⟨v1, rfl, ho1, hbg2⟩
                  obtain ⟨A1', c1', rfl, _⟩ := ho1.shape
                  rw [HLF.out]
                  have HS2 := Lib.hid (HS1.out.keep hbg2)
                  have CL2 := Lib.hid (alist_any HS2.out.pool (by omega))
                  have tLL : ((LF : Int) != (LF : Int)) = false := by simp
                  clear ho1 hbg2 CL1
                  go_wp2_with fail
                  refine CL2.out.mono ?_
                  rintro e wg3 ⟨v2, rfl, ho2, hbg3⟩
                  have HS3 := Lib.hid (HS2.out.keep hbg3)
                  obtain ⟨A2, c2, rfl, _, _, _, hx2⟩ := ho2.shape
                  have hx2 := hx2 fun x hx => i64_may (HMF.out x hx)
                  have CS1 := Lib.hid (rsectors_any wg3 A2 F.length c2 F rfl (by omega) HMF.out htl hx2)
                  rw [HSE.out] at CS1
                  clear ho2 hbg3 CL2 hx2
                  go_wp2_with fail
                  refine CS1.out.mono ?_
                  rintro e wg4 ⟨v3, rfl, ho3, hbg4⟩
                  have HS4 := Lib.hid (HS3.out.keep hbg4)
                  have hz3 : ∀ z, z ∈ frs s fs → Z64 z := fun z hz => by
                    obtain ⟨h1, h2⟩ := isB_lt ((mem_frs fs s z).1 hz)
                    unfold Z64; omega
                  have HZ3 := Lib.hid hz3
                  obtain ⟨A3, c3, rfl, _, _, hi3⟩ := ho3.shape
                  have HI3 := Lib.hid (hi3 hz3)
                  have CL3 := Lib.hid (rlist_any HS4.out.ref (by omega) hfl)
                  clear ho3 hbg4 CS1 hi3 hz3
                  go_wp2_with fail
                  refine CL3.out.mono ?_
                  rintro e wg5 ⟨v4, rfl, ho4, hbg5⟩
                  have HS5 := Lib.hid (HS4.out.keep hbg5)
                  obtain ⟨A4, c4, rfl, _, _, hi4⟩ := ho4.shape
                  have CI1 := Lib.hid (ints_any wg5 A3 A4 (frs s fs).length c3 (frs s fs).length c4 wg5.heap.size wg5.heap.size (frs s fs) (frs s fs) rfl rfl (by omega) (HI3.out.later hbg5) (hi4 HZ3.out))
                  rw [show decide (frs s fs = frs s fs) = true from by simp] at CI1
                  clear ho4 hbg5 CL3 hi4
                  go_wp2_with fail
                  refine CI1.out.mono ?_
                  rintro e wg6 ⟨rfl, q6, rfl⟩
                  have HS6 := Lib.hid (HS5.out.keep (below_drewN_self wg5 q6))
                  have CL4 := Lib.hid (alist_any HS6.out.pool (by omega))
                  clear CI1
                  go_wp2_with fail
                  refine CL4.out.mono ?_
                  rintro e wg7 ⟨v5, rfl, ho5, hbg7⟩
                  have HS7 := Lib.hid (HS6.out.keep hbg7)
                  obtain ⟨A5, c5, rfl, _, _, _, hx5⟩ := ho5.shape
                  have CR := Lib.hid (rright_any wg7 A5 c5 F.length F rfl (hx5 fun x hx => i64_may (HMF.out x hx)) (by omega))
                  rw [HSF.out.pol.1] at CR
                  clear ho5 hbg7 CL4 hx5
                  go_wp2_with fail
                  refine CR.out.mono ?_
                  rintro e wg8 ⟨rfl, hbg8⟩
                  have HS8 := Lib.hid (HS7.out.keep hbg8)
                  clear hbg8 CR
                  go_wp2
                  go_roundw
                  case rel => exact ⟨k + 1, _, _, by omega, by simp, HS8.out⟩
                  case measure => simp [intOf]; omega
            · obtain rfl : k = N := by omega
              have t1 : decide ((k : Int) < (k : Int)) = false := by simp
              have HF := Lib.hid HS.out.below
              go_wp2
              go_ret
              exact ⟨rfl, HF.out⟩
        · exact (hnrg ((of_rg s m us HMAY.out).1 HOK.out)).elim
      · by_cases hmay : may (s, n) = true
        · have hm1 := (may_iff (s, n)).1 hmay
          dsimp only at hm1
          obtain ⟨m, rfl⟩ : ∃ m : Nat, n = (m : Int) := ⟨n.toNat, by omega⟩
          have h1m : 1 ≤ m := by omega
          have hm100 : m ≤ 100 := by omega
          have hs0 : 0 ≤ s := hm1.1
          have HMAY := Lib.hid hmay
          have HNG := Lib.hid hng
          rw [hmay] at CM
          clear hm1 hmay hng hn100
          go_wp2_with fail
          refine CM.out.mono ?_
          rintro e w5 ⟨rfl, hb5⟩
          have HB5 := Lib.hid (HB4.out.trans (hb5.mono HB4.out.size))
          have CN := Lib.hid (rnew_any w5 s m h1m (by omega))
          clear q0 q1
          obtain ⟨q0, q1⟩ := HBX.out w5 HB5.out
          clear hb5 CM
          go_wp2_with fail
          refine CN.out.mono ?_
          rintro e w6 ⟨g2, r, rfl, hR, hg2, hr2, hb6⟩
          have HB6 := Lib.hid (HB5.out.trans (hb6.mono HB5.out.size))
          have hx6 := HX.out w6 HB6.out
          have CG := Lib.hid (rgive_any hR (by omega) A0 N0 c0 us HL0.out (by omega) (fun hc => few_tot HFU.out hc) (hx6.2.1.more hx6.2.2.size) false)
          have HR2 := Lib.hid (show w.heap.size ≤ r from Nat.le_trans (HX.out w5 HB5.out).2.2.size hr2)
          have HX6 := Lib.hid hx6.2.2
          clear hR hg2 hr2 hb6 CN hx6 q0 q1
          go_wp2_with fail
          refine CG.out.mono ?_
          rintro e w7 ⟨hO, ⟨hrg, _, _⟩ | ⟨hnrg, rfl, _⟩⟩
          · exact (HNG.out ((of_rg s m us HMAY.out).2 hrg)).elim
          · have HE := Lib.hid (show Below w.heap.size w w7 from HX6.out.trans (hO.below HR2.out HX6.out.size))
            clear hO hnrg CG
            go_wp2
            go_ret
            exact ⟨rfl, HE.out⟩
        · have hmay' : may (s, n) = false := by simpa using hmay
          rw [hmay'] at CM
          clear hmay hmay' hng
          go_wp2_with fail
          refine CM.out.mono ?_
          rintro e w5 ⟨rfl, hb5⟩
          have HE := Lib.hid (HX.out w5 (HB4.out.trans (hb5.mono HB4.out.size))).2.2
          clear hb5 CM
          go_wp2
          go_ret
          exact ⟨rfl, HE.out⟩
end Go.Proofs.Ytjeiechkndfhmaa
