/-
  Contract of the reference's With: the sum of bytes, with the numbers that are handed over. Conditions: these are the chapter's numbers; the bytes are at most 4000. (Written by tools/gen_with.py.)
-/
import Derived.Test.YtmookhbijmibiaaDoorShaWith4
namespace Go.Proofs.YtmookhbijmibiaaDoor
open Go.RowKit Arr Sh

/-- What holds between pieces: the result's variable, the text, the kinds, the eight numbers. -/
structure Wi (w : World) (gk gm gs : Nat) (m l : List Nat) (wr : World) : Prop where
  res : Holds wr w.heap.size .u8 (zs 32)
  text : Bys wr wr.heap.size (some ⟨gm, 0, none⟩) m
  kinds : Tab32 wr gk K
  nums : Holds wr gs .u32 l
  bel : Below w.heap.size w wr
theorem tot_byte {bs : List Nat} (h : ∀ x, x ∈ bs → x < 256) : ∀ x, x ∈ tot bs → x < 256 := fun x hx => by
  simp only [tot, List.mem_append] at hx
  rcases hx with hx | hx
  · exact h x hx
  · exact pad_byte _ x hx
theorem Tab32.nums {w : World} {b : Nat} {l : List Nat} (h : Tab32 w b l) (B : Nat) (hB : b < B) : Nums w B .u32 (some ⟨b, 0, none⟩) l := fun _ => ⟨b, 0, rfl, hB, fun i hi => by rw [Nat.zero_add]; exact h i hi⟩

set_option maxHeartbeats 4000000 in
set_option maxRecDepth 100000 in
theorem with_any (bs : List Nat) (A : Option Addr) (n c : Nat) (hl : bs.length = n) (hn : n ≤ 4000) (hAc : A = none → c = 0) (gk ck gb cb : Nat) (w : World) (hK : Tab32 w gk K) (hH : Tab32 w gb H0.l) (hb : Bys w w.heap.size A bs) :
    Calls Tryd.prog 14 #[.slice (some ⟨gk, 0, none⟩) 64 ck, .slice (some ⟨gb, 0, none⟩) 8 cb, .slice A n c] w (GivesB (Sh.sum bs) w) := by
  have sz1 : (w.alloc (.cells (na .u8 (zs 32)) 28)).heap.size = w.heap.size + 1 := World.size_alloc ..
  have b1 := below_alloc w (.cells (na .u8 (zs 32)) 28)
  have r1 := Holds.new w 28 .u8 (zs 32)
  have hkw := hK.lt (by rw [length_K]; omega)
  have hgw := hH.lt (by rw [length_l]; omega)
  obtain ⟨hl0, ehl⟩ : ∃ x, x = H0.l := ⟨_, rfl⟩
  rw [← ehl] at hH
  have lhl : hl0.length = 8 := by rw [ehl]; rfl
  have EH := Lib.hid ehl
  have SZ := Lib.hid sz1
  have B1 := Lib.hid b1
  have R1 := Lib.hid r1
  have HK := Lib.hid hK
  have HH := Lib.hid hH
  have HB := Lib.hid hb
  have HL := Lib.hid hl
  have LT := Lib.hid (length_tot bs)
  have C1 := Lib.hid (fun w' => rpad_any n (by omega) w')
  have HTT : Go.RowKit.Hid (bs ++ pad n = tot bs) := Lib.hid (by rw [← hl]; rfl)
  have LP := length_pad n
  have SG := size_ge n
  clear sz1 b1 r1 hK hH hb hl ehl
  go_enter Tryd.func14, Tryd.ntmps14
  go_upto_region 1 with (first | (with_reducible refine Arr.alloc (t := 28) _ z32 ?_) | fail)
  generalize w.alloc (.cells (na .u8 (zs 32)) 28) = w1 at *
  have hs1 := SZ.out
  go_upto_region 3 with (at_builtin; refine append_many rfl (.tmp 27) (.tmp 28) 22 rfl w1.heap.size 5 .u8 1 Tryd.underlying22 info_u8 (by omega) (.slice none 0 0) 0 [] rfl (World.ownsRow_nil w1 w1.heap.size 5 1) A n c bs rfl hAc HL.out w.heap.size (HB.out.below B1.out).nums (by omega) (Nat.le_refl _) ?_; intro v2 w2 hown2 hbel2)
  rw [Nat.zero_add, List.nil_append] at hown2
  have O2 := Lib.hid hown2
  have B2 := Lib.hid hbel2
  have hs2 := hbel2.size
  clear hown2 hbel2
  go_wp2_with fail
  refine (C1.out _).mono ?_
  rintro e w3 ⟨A3, c3, rfl, hb3, hB3⟩
  have O3 := Lib.hid (owns_below O2.out hB3)
  have B3 := Lib.hid (B2.out.trans (hB3.mono hs2))
  have N3 : Go.RowKit.Hid (A3 = none → c3 = 0) := Lib.hid (fun h => by
    obtain ⟨b, off, e, _⟩ := hb3.2 (by omega)
    rw [h] at e; cases e)
  have Y3 := Lib.hid hb3.nums
  have hs3 := B3.out.size
  rw [LP]
  clear hb3 hB3 O2 B2
  go_upto_region 4 with (at_builtin; refine append_many rfl (.tmp 30) (.tmp 33) 22 rfl w1.heap.size 5 .u8 1 Tryd.underlying22 info_u8 (by omega) v2 n bs rfl O3.out A3 (size n) c3 (pad n) rfl N3.out LP w3.heap.size Y3.out (by omega) hs3 ?_; intro v4 w4 hown4 hbel4)
  rw [HTT.out] at hown4
  have hTl : (tot bs).length = n + size n := by have := LT.out; rw [HL.out] at this; exact this
  have TB := Lib.hid (tot_byte HB.out.1)
  obtain ⟨T, eT⟩ : ∃ T, T = n + size n := ⟨_, rfl⟩
  have hT64 : T % 64 = 0 := by rw [eT]; exact size_mod n
  rw [← eT] at hown4 hTl
  have hT1 : 0 < T := by omega
  have hT2 : T ≤ 4072 := by omega
  obtain ⟨gm, cm, rfl, hgm, hTc, -, hH4⟩ := holds_of_owns hown4 hT1
  have M4 : Bys w4 w4.heap.size (some ⟨gm, 0, none⟩) (tot bs) := ⟨TB.out, fun _ => ⟨gm, 0, rfl, hH4.lt (by omega), fun i hi => by rw [Nat.zero_add]; exact hH4.cell i hi⟩⟩
  have B4 : Below w1.heap.size w1 w4 := B3.out.trans hbel4
  have HM4 := Lib.hid M4
  have HB4 := Lib.hid B4
  have hs4 := B4.size
  have HTL := Lib.hid hTl
  have HH4 := Lib.hid ((HH.out.below B1.out hgw).below B4 (by omega))
  clear hown4 hbel4 O3 B3 Y3 N3 C1 eT HTT LT LP SG M4 B4 hH4 HL hTl
  go_upto_region 6 with (at_builtin; refine append_many rfl (.tmp 35) (.tmp 36) 39 rfl w4.heap.size 38 .u32 4 Tryd.underlying39 info_w32 (by omega) (.slice none 0 0) 0 [] rfl (World.ownsRow_nil w4 w4.heap.size 38 1) (some ⟨gb, 0, none⟩) 8 cb hl0 rfl (fun h => by cases h) lhl w4.heap.size (HH4.out.nums _ (by omega)) (by omega) (Nat.le_refl _) ?_; intro v5 w5 hown5 hbel5)
  rw [Nat.zero_add, List.nil_append] at hown5
  obtain ⟨gs, cs, rfl, hgs, hcs, -, hH5⟩ := holds_of_owns hown5 (by omega)
  rw [EH.out] at hH5
  have W5 : Wi w gk gm gs (tot bs) (feed 0 H0 (tot bs)).l w5 := ⟨(R1.out.below HB4.out (by omega)).below hbel5 (by omega), (HM4.out.below hbel5).more hbel5.size, ((HK.out.below B1.out hkw).below HB4.out (by omega)).below hbel5 (by omega), hH5, B1.out.trans ((HB4.out.mono (by omega)).trans (hbel5.mono (by omega)))⟩
  have HW5 := Lib.hid W5
  clear hown5 hbel5 hH5 W5 HM4 HB4 HH4 HB HH HK R1 B1 SZ hs1 hs2 hs3 hs4
  generalize hTT : tot bs = TT at *
  have HTT := Lib.hid hTT
  clear hTT
  go_wp2_with fail
  go_loopw [8, 9] (fun v i wr => ∃ (q p gs cs : Nat), Go.RowKit.Hid (p = 64 * q) ∧ p ≤ T ∧ i = .int .i64 (p : Nat) ∧ v = .slice (some ⟨gs, 0, none⟩) 8 cs ∧ Wi w gk gm gs TT (feed q H0 TT).l wr) (fun _ i _ => T - (intOf i).toNat)
  case atStart => exact ⟨0, 0, gs, cs, Lib.hid rfl, by omega, rfl, rfl, HW5.out⟩
  case round =>
    clear HW5
    obtain ⟨q, p, gs, cs, HQ, hp, rfl, rfl, hw⟩ := hrel
    have HW := Lib.hid hw
    have hq := HQ.out
    by_cases hlt : p < T
    · as_aux_lemma =>
      have hp64 : p + 64 ≤ T := by omega
      have tt : decide ((p : Int) < (T : Int)) = true := by simp; omega
      have PB : Go.RowKit.Hid (∀ x, x ∈ (TT.drop p).take 64 → x < 256) := Lib.hid (fun x hx => TB.out x (List.mem_of_mem_drop (List.mem_of_mem_take hx)))
      have FS : Go.RowKit.Hid (comp ((TT.drop p).take 64) (feed q H0 TT) = feed (q + 1) H0 TT) := Lib.hid (by rw [feed_snoc, hq])
      have FOK := Lib.hid (feed_ok q TT H0_ok)
      have P16 : Go.RowKit.Hid (∀ t, t < 16 → w16 ((TT.drop p).take 64) t = num ((TT.drop (p + 4 * t)).take 4)) := Lib.hid (fun t ht => by
        rw [w16, List.drop_take, List.drop_drop, List.take_take, Nat.min_eq_left (by omega)])
      have HTx := Lib.hid hw.text
      have HKx := Lib.hid hw.kinds
      have HSx := Lib.hid hw.nums
      generalize (TT.drop p).take 64 = P at *
      have HQ2 : Go.RowKit.Hid (p + 64 = 64 * (q + 1)) := Lib.hid (by omega)
      clear hw hq
      generalize feed q H0 TT = st at *
      go_upto_block 1 with fail
      refine with_body _ _ ?hq P TT T p gk ck gm cm gs cs st wr PB P16 HTL hTc hT2 hp64 HTx FOK HKx HSx _ _ _ _ _ _ _ _ _ _ _ _ _ _ _ _ _ _ _ _ _ _ _ _ _ _ _ _ _ _ _ _ _ _ _ _ _ _ _ _ _ _ _ _ _ _ _ _ _ _ _ _ _ _ _ _ _ _ _ _ _ _ _ _ _ _ _ _ _ _ _ _ _ _ _ _ _ _ _ _ _ _ _ _ _ _ _ _ _ _ _ _ _ _ _ _ _ _ _ _ _ _ _ _ _ _ _ _ _ _ _ _ _ _ _ _ _ _ _ _ _ _ _ _ _ _ _ _ _ _ _ _ _ _ _ _ _ _ _ _ _ _ _ _ _ _ _ _ _ _ _ _ _ _ _ _ _ _ _ _ _ _ _ _ _ _ _ _ _ _ _ _ _ _ _ _ _ _ _ _ _ _ _ _ _ _ _ _ _ _ _ _ _ _ _ _ _ _ _ _ _ _ _ _ _ _ _ _ _ _ _ _ _ _ _ _ _ _ _ _ _ _ _ _ _ _ _ _ _ _ _ _ _ _ _ _ _ _ _ _ _ _ _ _ _ _ _ _ _ _ _ _ _ _ _ _ _ _ _ _ _ _ _ _ _ _ _ _ _ _ _ _ _ _ _ _ _ _ _ _ ?_
      case hq => exact fun _ _ _ _ _ h => h
      intro v8 v10 v11 v12 v13 v14 v15 v16 v17 v18 v19 v20 v21 v22 v23 v24 v44 v45 v46 v47 v48 v49 v50 v51 v52 v53 v54 v55 v56 v57 v58 v59 v60 v61 v62 v63 v64 v65 v66 v67 v68 v69 v70 v71 v72 v73 v74 v75 v76 v77 v78 v79 v80 v81 v82 v83 v84 v85 v86 v87 v88 v89 v90 v91 v92 v93 v94 v95 v96 v97 v98 v99 v100 v101 v102 v103 v104 v105 v106 v107 v108 v109 v110 v111 v112 v113 v114 v115 v116 v117 v118 v119 v120 v121 v122 v123 v124 v125 v126 v127 v128 v129 v130 v131 v132 v133 v134 v135 v136 v137 v138 v139 v140 v141 v142 v143 v144 v145 v146 v147 v148 v149 v150 v151 v152 v153 v154 v155 v156 v157 v158 v159 v160 v161 v162 v163 v164 v165 v166 v167 v168 v169 v170 v171 v172 v173 v174 v175 v176 v177 v178 v179 v180 v181 v182 v183 v184 v185 v186 v187 v188 v189 v190 v191 v192 v193 v194 v195 v196 v197 v198 v199 v200 v201 v202 v203 v204 v205 v206 v207 v208 v209 v210 v211 v212 v213 v214 v215 v216 v217 v218 v219 v220 v221 v222 v223 v224 v225 v226 v227 v228 v229 v230 v231 v232 v233 v234 v235 v236 v237 wx hP
      obtain ⟨gs', cs', rfl, hH', hgs', hB'⟩ := hP
      rw [FS.out] at hH'
      have hrw := HW.out.res.lt (by rw [length_zs]; omega)
      have hkw2 := HW.out.kinds.lt (by rw [length_K]; omega)
      have NW := Lib.hid (show Wi w gk gm gs' TT (feed (q + 1) H0 TT).l wx from ⟨HW.out.res.below hB' hrw, (HW.out.text.below hB').more hB'.size, HW.out.kinds.below hB' hkw2, hH', HW.out.bel.trans (hB'.mono HW.out.bel.size)⟩)
      clear hH' hB' HW HTx HKx HSx P16 PB FS FOK hkw2 hrw
      go_wp2
      go_roundw
      case rel => exact ⟨q + 1, p + 64, gs', cs', HQ2, hp64, by go_num, rfl, NW.out⟩
      case measure => simp [intOf]; omega
    · have tt : decide ((p : Int) < (T : Int)) = false := by simp; omega
      have hpT : p = T := by omega
      have hfin : feed q H0 TT = feed (TT.length / 64) H0 TT := by rw [HTL.out]; congr 1; omega
      have HFS : Go.RowKit.Hid (Sh.sum bs = out (feed q H0 TT)) := Lib.hid (by rw [hfin, ← HTT.out]; rfl)
      have FOK := Lib.hid (ws_l (feed_ok q TT H0_ok))
      have HLO := Lib.hid (lay_out (feed q H0 TT))
      have LO := length_out (feed q H0 TT)
      have LL := length_l (feed q H0 TT)
      rw [← HFS.out] at HLO LO
      generalize (feed q H0 TT).l = l at *
      generalize Sh.sum bs = sm at *
      have hgs := hw.nums.lt (by omega)
      have hrs := hw.res.lt (by rw [length_zs]; omega)
      have N1 := Lib.hid (Holds.new wr 28 .u8 (zs 32))
      have N2 := Lib.hid (hw.nums.alloc (.cells (na .u8 (zs 32)) 28))
      have N3 := Lib.hid (hw.res.alloc (.cells (na .u8 (zs 32)) 28))
      have N4 := Lib.hid (hw.bel.alloc hw.bel.size (.cells (na .u8 (zs 32)) 28))
      have N5 : (wr.alloc (.cells (na .u8 (zs 32)) 28)).heap.size = wr.heap.size + 1 := World.size_alloc ..
      have HN5 := Lib.hid N5
      clear hw hq hfin HW HFS N5 HTT HTL TB
      go_upto_block 6 with (first | (with_reducible refine Arr.alloc (t := 28) _ z32 ?_) | fail)
      generalize wr.alloc (.cells (na .u8 (zs 32)) 28) = wa at *
      refine with_loop4 _ _ l gs cs wr.heap.size wa FOK LL (by omega) N2 N1 _ _ _ _ _ _ _ _ _ _ _ _ _ _ _ _ _ _ _ _ _ _ _ _ _ _ _ _ _ _ _ _ _ _ _ _ _ _ _ _ _ _ _ _ _ _ _ _ _ _ _ _ _ _ _ _ _ _ _ _ _ _ _ _ _ _ _ _ _ _ _ _ _ _ _ _ _ _ _ _ _ _ _ _ _ _ _ _ _ _ _ _ _ _ _ _ _ _ _ _ _ _ _ _ _ _ _ _ _ _ _ _ _ _ _ _ _ _ _ _ _ _ _ _ _ _ _ _ _ _ _ _ _ _ _ _ _ _ _ _ _ _ _ _ _ _ _ _ _ _ _ _ _ _ _ _ _ _ _ _ _ _ _ _ _ _ _ _ _ _ _ _ _ _ _ _ _ _ _ _ _ _ _ _ _ _ _ _ _ _ _ _ _ _ _ _ _ _ _ _ _ _ _ _ _ _ _ _ _ _ _ _ _ _ _ _ _ _ _ _ _ _ _ _ _ _ _ _ _ _ _ _ _ _ _ _ _ _ _ _ _ _ _ _ _ _ _ _ _ _ _ _ _ _ _ _ _ _ _ _ _ _ _ _ _ _ _ _ _ _ _ _ _ _ _ _ _ _ _ _ _ ?_
      intro v26 v238 v239 v240 v241 v242 v243 v244 v245 v246 v247 v248 v249 v250 v251 v252 v253 v254 v255 v256 v257 v258 v259 v260 v261 v262 v263 v264 v265 v266 v267 v268 v269 v270 v271 v272 v273 v274 v275 v276 v277 v278 v279 v280 v281 v282 wx hH hO
      rw [HLO.out] at hH
      have hwb := N4.out.size
      have HX := Lib.hid hH
      have RX : Holds wx w.heap.size .u8 (zs 32) := HAt.only (Holds.at0 N3.out) hO (by have := HN5.out; omega) (by omega)
      have HRX := Lib.hid RX
      have BX : Below w.heap.size w wx := N4.out.trans (hO.below (by omega) hwb)
      have F1 := Lib.hid (RX.put sm (by rw [LO, length_zs]))
      have F2 := Lib.hid (below_setCells (b := w.heap.size) (Nat.le_refl _) (nv .u8 sm) 0 _ BX)
      clear hH hO RX BX N1 N2 N3 N4 HLO
      go_wp2_with (first | (with_reducible refine Arr.load o32 wr.heap.size sm LO HX.out rfl ?_) | (with_reducible refine Arr.store o32 w.heap.size (zs 32) sm (length_zs _) HRX.out LO rfl rfl ?_) | fail)
      exact bodyPost_ret (v := .agg (na .u8 sm)) (results_arr o32 rfl _ _ w.heap.size sm LO F1.out rfl) rfl ⟨rfl, F2.out⟩
end Go.Proofs.YtmookhbijmibiaaDoor
