/-
  The walk of the law that no sector is given out twice. Condition: the slice holds what is done. (Written by tools/gen_alonce.py.)
-/
import Derived.Test.YtjeiechkndfhmaaAlOnMem
import Derived.Test.YtjeiechkndfhmaaAlRefPut
import Derived.Maps.RangeWalk
namespace Go.Proofs.Ytjeiechkndfhmaa
open Go.RowKit Arr Ex
set_option linter.unusedSimpArgs false

theorem length_le_total : ∀ (l : List (Int × Int)), (∀ x, x ∈ l → may x = true) → (l.length : Int) ≤ total l
  | [], _ => by simp [total]
  | x :: l, h => by
    have := length_le_total l (fun y hy => h y (List.mem_cons_of_mem _ hy))
    have hx := (may_iff x).1 (h x (by simp))
    rw [total_cons, List.length_cons]
    omega
theorem cutOk_le {F : List (Int × Int)} {n : Int} (h : cutOk F n = true) : n ≤ total F := by
  unfold cutOk at h
  simp only [Bool.and_eq_true, decide_eq_true_eq] at h
  exact h.2
theorem totC_right {F : List (Int × Int)} (h : right F = true) : totC F = total F := by unfold totC; rw [if_pos (right_chain h)]
theorem tkE_zero {F : List (Int × Int)} {n : Int} (h : tkE F n = 0) : 1 ≤ n ∧ n ≤ total F := by
  unfold tkE at h
  split at h
  · cases h
  · split at h
    · rename_i h1 h2
      exact ⟨by omega, cutOk_le h2⟩
    · cases h
/-- The row of the sectors of a chain, beside the map. -/
theorem RowI.grown {w w' : World} {b : Nat} {zs : List Int} {row : Option Nat} (h : RowI w b zs) (hg : w.grownBy w' row) (hl : b < w.heap.size) (hn : some b ≠ row) : RowI w' b zs := fun k hk => (heap_cell2 (hg.block b hl hn)).trans (h k hk)
theorem RowI.below {w w' : World} {b : Nat} {zs : List Int} (h : RowI w b zs) (hb : Below w.heap.size w w') (hl : b < w.heap.size) : RowI w' b zs := fun k hk => (heap_cell2 (hb.block b hl)).trans (h k hk)
set_option maxRecDepth 100000 in
set_option maxHeartbeats 16000000 in
theorem once_walk (w : World) (n0 : Nat) (hn0 : n0 < 256) (A : Option Addr) (N c : Nat) (ds : List Dd) (hN : ds.length = N) (hm : N ≤ 9223372036854775807) (hx : Dds w w.heap.size A ds) :
    Calls Try.prog 4 #[.int .u8 (n0 : Int), .slice A N c] w (Bel (.bool true) w) := by
  have mixed : Try.prog.follows .mixedOrders = true := by kernel_rfl
  have hmm := @run_makeMap Try.prog
  have CA := Lib.hid (awake_any w)
  have HN := Lib.hid hN
  have HX := Lib.hid hx
  obtain ⟨sz, hsz⟩ : ∃ sz : Nat, sz = n0 % 60 + 1 := ⟨_, rfl⟩
  have hsz1 : 1 ≤ sz := by omega
  have hsz2 : sz ≤ 60 := by omega
  have HSZ := Lib.hid hsz
  have ES := Lib.hid (show (n0 : Int) % 60 + 1 = (sz : Int) by omega)
  have wu : IntKind.i64.wrap (n0 : Int) = (n0 : Int) := by rw [IntKind.wrap_i64]; omega
  have wz : IntKind.i64.wrap ((n0 : Int) % 60 + 1) = (n0 : Int) % 60 + 1 := by rw [IntKind.wrap_i64]; omega
  have tmod : (n0 : Int).tmod 60 = (n0 : Int) % 60 := by rw [Int.tmod_eq_emod_of_nonneg (by omega)]
  clear hN hx hsz
  go_enter Try.func4, Try.ntmps4
  go_wp2_with fail
  refine CA.out.mono ?_
  rintro e w1 ⟨rfl, hb1⟩
  have HB1 := Lib.hid hb1
  clear hb1 CA
  go_wp2_with fail
  refine (atake_nil w1 1).mono ?_
  rintro e wx ⟨rfl, hwx⟩
  subst wx
  go_wp2_with fail
  refine (agive_nil w1 _).mono ?_
  rintro e wx ⟨rfl, hwx⟩
  subst wx
  go_wp2_with fail
  refine (afree_nil w1).mono ?_
  rintro e wx ⟨rfl, hwx⟩
  subst wx
  go_wp2_with fail
  refine (alist_nil w1).mono ?_
  rintro e wx ⟨rfl, hwx⟩
  subst wx
  have CF := Lib.hid (fewd_any w1 0 0 A N c ds HN.out hm ⟨fun hp => by obtain ⟨b, off, e, hB, hc⟩ := (HX.out.below HB1.out).cells hp; exact ⟨b, off, e, Nat.lt_of_lt_of_le hB HB1.out.size, hc⟩, fun i hi => by have h := (HX.out.below HB1.out).ok i hi; exact ⟨h.ex.more HB1.out.size, h.le, h.no, h.n64⟩⟩)
  go_wp2_with fail
  refine CF.out.mono ?_
  rintro e w2 ⟨fb, rfl, hf, hb2⟩
  have HB2 := Lib.hid (HB1.out.trans (hb2.mono HB1.out.size))
  have HFD := Lib.hid hf
  clear hf hb2 CF
  cases fb with
  | false =>
    go_wp2
    go_ret
    exact ⟨rfl, HB2.out⟩
  | true =>
    have hfd := HFD.out.1 rfl
    have hN30 : N ≤ 30 := by have := hfd.2.2.1; rw [HN.out] at this; exact this
    have HALLF := Lib.hid hfd.2.2.2
    clear hfd HFD
    have CN := Lib.hid (anew_any w2 (fun _ => False) (fun _ e => e.elim) 7 (sz : Int) (by unfold I64; dsimp only; omega))
    go_wp2_with fail
    rw [ES.out]
    refine CN.out.mono ?_
    rintro e w3 ⟨hb3, ⟨_, g, F, rfl, hg, hr, hF, _, hP⟩ | ⟨ho, rfl⟩⟩
    · have hbk : Bk (sz : Int) [(7, (sz : Int))] [] [] := Bk.first (by omega) (by omega)
      obtain rfl : F = [(7, (sz : Int))] := right_ext' hr hbk.right fun u => (hF u).trans ⟨fun h => h.1, fun h => ⟨h, mem_nil u⟩⟩
      have HB3 := Lib.hid (HB2.out.trans (hb3.mono HB2.out.size))
      have HP := Lib.hid hP
      have hs2 := HB2.out.size
      have hs3 := hb3.size
      have hal : Below w3.heap.size w3 (w3.alloc (.map #[] 0)) := below_alloc w3 _
      have HS0 := Lib.hid (show OnS w (w3.alloc (.map #[] 0)) g w3.heap.size (sz : Int) [(7, (sz : Int))] [] (.slice none 0 0) [] from
        ⟨HP.out.forbid (fun k hk => by rcases hk with rfl | hk; exact ⟨by simp, .inr (Nat.le_refl _)⟩; cases hk) hal, MapS.made w3, Seg.nil _ _ _, fun p hp => (by cases hp), HB3.out.trans (hal.mono (by omega)), by omega, by omega⟩)
      have HBK0 := Lib.hid hbk
      obtain ⟨bm, hbm⟩ : ∃ bm, bm = w3.heap.size := ⟨_, rfl⟩
      rw [← hbm] at HS0
      have HBM := Lib.hid hbm
      clear hb3 hr hF hP hbk hal hs2 hs3 hg CN
      go_wp2
      rw [← hbm]
      clear hbm
      go_loopw [12, 64] (fun v i wr => ∃ (k : Nat) (F : List (Int × Int)) (os : List Int) (ps : List Pe), k ≤ N ∧ i = .int .i64 (k : Int) ∧ OnS w wr g bm (sz : Int) F os v ps ∧ v.ownBlock ≠ some bm ∧ Bk (sz : Int) F os (ps.map Pe.l) ∧ ps.length ≤ k) (fun _ i _ => N - (intOf i).toNat)
      case atStart => exact ⟨0, _, _, [], Nat.zero_le _, rfl, HS0.out, (by intro e; cases e), HBK0.out, Nat.le_refl _⟩
      case round =>
        obtain ⟨k, F, os, ps, hk, rfl, hS, hvb, hbk, hpk⟩ := hrel
        have HS := Lib.hid hS
        have HBK := Lib.hid hbk
        have HVB := Lib.hid hvb
        clear hS hbk hvb
        by_cases hlt : k < N
        · have hki : k < ds.length := by rw [HN.out]; exact hlt
          obtain ⟨b, off, kd, nd, A', c', l, rfl, hb, hd, q0, q1, q2, _, _, _, hn64⟩ := (HX.out.below HS.out.below).at k hki
          have t1 : decide ((k : Int) < (N : Int)) = true := by simp; omega
          have wk : IntKind.i64.wrap ((k : Int) + 1) = (k : Int) + 1 := by rw [IntKind.wrap_i64]; omega
          obtain ⟨wa, hwa⟩ : ∃ wa, wa = wr.alloc (.cells #[.int .i64 kd, .int .i64 nd, .slice A' l.length c'] 39) := ⟨_, rfl⟩
          have HSA := Lib.hid (HS.out.keep (hwa ▸ below_alloc wr _))
          have p0 : wa.cell? ⟨wr.heap.size, 0, none⟩ = some (.int .i64 kd) := by rw [hwa, World.cell?_alloc_new]; rfl
          have p1 : wa.cell? ⟨wr.heap.size, 1, none⟩ = some (.int .i64 nd) := by rw [hwa, World.cell?_alloc_new]; rfl
          have HWA := Lib.hid hwa
          have hFl : F.length ≤ 1000 := by
            have h1 := length_le_total F ((right_iff F).1 HBK.out.right).1
            have h2 := HBK.out.tot
            omega
          have hosl : os.length ≤ 60 := by have h1 := HBK.out.tot; have h2 := HBK.out.total_nn; omega
          have hpl30 : ps.length ≤ 30 := by omega
          have HMAYF := Lib.hid ((right_iff F).1 HBK.out.right).1
          clear hd hki hwa
          generalize l.length = L at *
          by_cases hkd : kd = 1
          · subst hkd
            have CT := Lib.hid (atake_any HSA.out.pool hFl HMAYF.out nd hn64)
            by_cases htk : tkE F nd = 0
            · have HTK := Lib.hid htk
              clear htk
              go_wp2_with fail
              rw [← HWA.out]
              refine CT.out.mono ?_
              rintro e wb ⟨vx, x, rfl, hox, hon, hx1, _⟩
              obtain ⟨hxe, hpl⟩ := hx1 HTK.out
              rw [HTK.out]
              obtain ⟨h1n, h2n⟩ := tkE_zero HTK.out
              have HSB := Lib.hid (HSA.out.only hon hpl)
              have HBKB := Lib.hid (HBK.out.take nd h1n h2n)
              have HFACT := Lib.hid (take_facts HBK.out.right nd h1n h2n)
              have HMX := Lib.hid (hdL_may HBK.out.right nd (by omega))
              have HMEM := Lib.hid HBK.out.mem
              rw [← hxe] at HBKB HFACT HMX
              obtain ⟨Ax, cx, rfl, hcx, _, hlox, hxx⟩ := hox.shape
              have HEX := Lib.hid (hxx fun y hy => i64_may (HMX.out y hy))
              have HOKX := Lib.hid (show ExOk wb g bm u12 ⟨Ax, cx, x⟩ from ⟨HEX.out, fun _ b hb => by
                have h1 := hlox b hb
                have h2 := HSA.out.gl
                have h3 := HSA.out.ml
                exact ⟨by omega, by omega, fun e => by have := (HSA.out.row.lt b e).2; omega⟩⟩)
              have hlx : x.length ≤ 60 := by
                have h1 := length_le_total x HMX.out
                have h2 := total_secs x (fun y hy => by have := (may_iff y).1 (HMX.out y hy); omega)
                have h3 := HFACT.out.2.2.2.2.1
                have h4 := HBK.out.tot
                omega
              have CS := Lib.hid (rsectors_any wb Ax x.length cx x rfl (by omega) HMX.out (by
                have h2 := total_secs x (fun y hy => by have := (may_iff y).1 (HMX.out y hy); omega)
                have h3 := HFACT.out.2.2.2.2.1
                have h4 := HBK.out.tot
                omega) HEX.out)
              clear hox hon hx1 hpl hlox hxx CT hxe hcx
              generalize tlL nd F = F' at *
              have HLX := Lib.hid (show x.length = x.length from rfl)
              go_wp2_with fail
              refine CS.out.mono ?_
              rintro e wc ⟨vr, rfl, hor, hbc⟩
              have HSC := Lib.hid (HSB.out.keep hbc)
              have HOKC := Lib.hid (HOKX.out.below hbc)
              have hmz : ((secs x).length : Int) = nd := HFACT.out.2.2.2.2.1
              have hor' := hor
              obtain ⟨b', cap, rfl, hb1', hb2'⟩ := World.ownsRow.form hor' (by omega)
              have HROW := Lib.hid (OwnI.row hor rfl)
              have hbm' : some b' ≠ some bm := by
                have h3 := HSB.out.ml
                intro e
                simp only [Option.some.injEq] at e
                omega
              have HZ := Lib.hid (show ∀ u, u ∈ secs x → Mem u F from HFACT.out.2.2.2.1)
              have HND := Lib.hid HFACT.out.2.2.2.2.2.2
              clear hor hor' hbc CS hb1'
              generalize hzs : secs x = zs at *
              generalize hmm' : zs.length = m at *
              have HLM := Lib.hid hmm'
              have hm60 : m ≤ 60 := by have h4 := HBK.out.tot; omega
              clear hmm'
              go_wp2
              go_loopw [83] (fun i ws => ∃ (j : Nat) (Ws : World), Ws = ws ∧ j ≤ m ∧ i = .int .i64 (j : Int) ∧ OnS w ws g bm (sz : Int) F' (os ++ zs.take j) u12 ps ∧ ExOk ws g bm u12 ⟨Ax, cx, x⟩ ∧ RowI ws b' zs ∧ b' < ws.heap.size) (fun i _ => m - (intOf i).toNat)
              case atStart => exact ⟨0, _, rfl, Nat.zero_le _, rfl, by rw [List.take_zero, List.append_nil]; exact HSC.out, HOKC.out, HROW.out, hb2'⟩
              case round =>
                obtain ⟨j, ws, rfl, hj, rfl, hSj, hokj, hrowj, hbj⟩ := hrel
                have HSJ := Lib.hid hSj
                have HOKJ := Lib.hid hokj
                have HROWJ := Lib.hid hrowj
                clear hokj
                by_cases hjm : j < m
                · have hkz : j < zs.length := by rw [HLM.out]; exact hjm
                  have cz : ws.cell? ⟨b', j, none⟩ = some (.int .i64 zs[j]) := hrowj j hkz
                  have t3 : decide ((j : Int) < (m : Int)) = true := by simp; omega
                  have wj : IntKind.i64.wrap ((j : Int) + 1) = (j : Int) + 1 := by rw [IntKind.wrap_i64]; omega
                  have TK := Lib.hid (take_getI hkz)
                  obtain ⟨⟨hu1, hu2⟩, hu3⟩ := (HMEM.out zs[j]).1 (HZ.out zs[j] (List.getElem_mem hkz))
                  have hnot : zs[j] ∉ os ++ zs.take j := by
                    intro hmem
                    rcases List.mem_append.1 hmem with h1 | h1
                    · exact hu3 h1
                    · have h2 := HND.out
                      rw [← List.take_append_drop j zs, List.nodup_append] at h2
                      exact h2.2.2 _ h1 _ (by rw [List.drop_eq_getElem_cons hkz]; exact List.mem_cons_self) rfl
                  have hM := hSj.map
                  clear hSj hrowj
                  generalize zs[j] = u at *
                  have hdec : decide (u ∈ os ++ zs.take j) = false := by simpa using hnot
                  have t4 : decide (u < 7) = false := by simpa using hu1
                  have w7 : IntKind.i64.wrap (7 + (sz : Int)) = 7 + (sz : Int) := by rw [IntKind.wrap_i64]; omega
                  have t5 : decide (u ≥ 7 + (sz : Int)) = false := by simpa using hu2
                  have hu64 : -9223372036854775808 ≤ u ∧ u ≤ 9223372036854775807 := by omega
                  have hlen : (os ++ zs.take j).length ≤ 1000000 := by rw [List.length_append, List.length_take]; omega
                  go_wp2_with (first | (at_lookup; refine map_look rfl _ _ rfl rfl hM u hu64 rfl ?_; rw [hdec]) | (at_mapUpdate; refine map_store rfl _ _ _ rfl rfl hM hlen u hu64 rfl rfl hnot ?_; intro wd hmd hgd))
                  go_roundw
                  case rel =>
                    refine ⟨j + 1, _, rfl, by omega, by simp, ?_, HOKJ.out.touch (touch_grown hgd) (fun q e => .inr (.inl (by simpa using e.symm))), HROWJ.out.grown hgd hbj hbm', Nat.lt_of_lt_of_le hbj hgd.size⟩
                    rw [TK.out, ← List.append_assoc]
                    exact HSJ.out.write HVB.out hgd hmd
                  case measure => simp [intOf]; omega
                · obtain rfl : j = m := by omega
                  have t3 : decide ((j : Int) < (j : Int)) = false := by simp
                  have hS2 := HSJ.out
                  rw [← HLM.out, List.take_length] at hS2
                  have HS2 := Lib.hid hS2
                  have hal := below_alloc ws (.cells #[.slice Ax x.length cx] 23)
                  have hseg := hS2.row.below hal
                  have hsw := hS2.below.size
                  have hcell : (ws.alloc (.cells #[.slice Ax x.length cx] 23)).cell? ⟨ws.heap.size, 0, none⟩ = some (.slice Ax x.length cx) := by rw [World.cell?_alloc_new]; rfl
                  have hpm : (ps.map hdP).length ≤ 100000 := by rw [List.length_map]; omega
                  clear hS2 hSj hrowj
                  generalize hxl : x.length = nx at *
                  go_wp2_with (at_builtin; refine append_chain rfl (.tmp 103) (.tmp 105) rfl w.heap.size u12 (ps.map hdP) rfl hseg ws.heap.size Ax nx cx rfl hcell hpm (by simp; omega) ?_; intro v' we hsg hge hle)
                  obtain ⟨hSP, hVP⟩ := HS2.out.push (p := ⟨Ax, cx, x⟩) HOKJ.out hal (by rw [List.map_append]; show Seg _ _ _ _ (ps.map hdP ++ [.slice Ax x.length cx]); rw [hxl]; exact hsg) hge hle HVB.out
                  have HSF := Lib.hid hSP
                  have HVP := Lib.hid hVP
                  have HBF := Lib.hid (show Bk (sz : Int) F' (os ++ zs) ((ps ++ [(⟨Ax, cx, x⟩ : Pe)]).map Pe.l) from by rw [List.map_append]; exact HBKB.out)
                  clear hSP hVP hsg hge hle hal hseg hcell
                  have hFl : F'.length ≤ 1000 := by
                    have h1 := length_le_total F' ((right_iff F').1 HBF.out.right).1
                    have h2 := HBF.out.tot
                    omega
                  have CFR := Lib.hid (afree_any HSF.out.pool hFl)
                  rw [totC_right HBF.out.right] at CFR
                  have htot := HBF.out.tot
                  have htnn := HBF.out.total_nn
                  clear hFl
                  generalize total F' = T at *
                  go_wp2_with fail
                  refine CFR.out.mono ?_
                  rintro e wf ⟨rfl, hbf⟩
                  have HSG := Lib.hid (HSF.out.keep hbf)
                  have hM := HSG.out.map
                  clear hbf CFR
                  obtain ⟨LO, hLO⟩ : ∃ LO, (os ++ zs).length = LO := ⟨_, rfl⟩
                  rw [hLO] at htot
                  have wT : IntKind.i64.wrap (T + (LO : Int)) = T + (LO : Int) := by rw [IntKind.wrap_i64]; omega
                  have tT : (T + (LO : Int) == (sz : Int)) = true := by simpa using htot
                  have tT2 : (T + (LO : Int) != (sz : Int)) = false := by simpa using htot
                  have HLO := Lib.hid hLO
                  clear htot htnn hLO
                  go_wp2_with (at_len; refine map_lenN LO HLO.out rfl _ rfl rfl hM ?_)
                  go_roundw
                  case rel => exact ⟨k + 1, _, _, _, by omega, by simp, HSG.out, HVP.out, HBF.out, by rw [List.length_append]; simp; omega⟩
                  case measure => simp [intOf]; omega
            · have HTK := Lib.hid htk
              have HTE := Lib.hid (show (((tkE F nd : Nat) : Int) != 0) = true from by simp; exact htk)
              clear htk
              go_wp2_with fail
              rw [← HWA.out]
              refine CT.out.mono ?_
              rintro e wb ⟨vx, x, rfl, hox, hon, _, hx2⟩
              obtain ⟨hxe, hpl⟩ := hx2 HTK.out
              have HSB := Lib.hid (HSA.out.only hon hpl)
              have tE := HTE.out
              obtain ⟨Ax, cx, rfl, _⟩ := hox.shape
              clear hox hon hx2 hpl CT
              generalize tkE F nd = er at *
              go_wp2
              go_roundw
              case rel => exact ⟨k + 1, _, _, _, by omega, by simp, HSB.out, HVB.out, HBK.out, by omega⟩
              case measure => simp [intOf]; omega
          · have t2 : (kd == (1 : Int)) = false := by simpa using hkd
            cases ps with
            | nil =>
              have HSF := HSA
              have HBF := HBK
              obtain ⟨Av, cv, ev, _⟩ := HSA.out.row.shape
              have ev' : u12 = .slice Av 0 cv := ev
              subst ev'
              go_wp2_with fail
              rw [← HWA.out]
              have hFl : F.length ≤ 1000 := by
                have h1 := length_le_total F ((right_iff F).1 HBF.out.right).1
                have h2 := HBF.out.tot
                omega
              have CFR := Lib.hid (afree_any HSF.out.pool hFl)
              rw [totC_right HBF.out.right] at CFR
              have htot := HBF.out.tot
              have htnn := HBF.out.total_nn
              clear hFl
              generalize total F = T at *
              go_wp2_with fail
              refine CFR.out.mono ?_
              rintro e wf ⟨rfl, hbf⟩
              have HSG := Lib.hid (HSF.out.keep hbf)
              have hM := HSG.out.map
              clear hbf CFR
              obtain ⟨LO, hLO⟩ : ∃ LO, os.length = LO := ⟨_, rfl⟩
              rw [hLO] at htot
              have wT : IntKind.i64.wrap (T + (LO : Int)) = T + (LO : Int) := by rw [IntKind.wrap_i64]; omega
              have tT : (T + (LO : Int) == (sz : Int)) = true := by simpa using htot
              have tT2 : (T + (LO : Int) != (sz : Int)) = false := by simpa using htot
              have HLO := Lib.hid hLO
              clear htot htnn hLO
              go_wp2_with (at_len; refine map_lenN LO HLO.out rfl _ rfl rfl hM ?_)
              go_roundw
              case rel => exact ⟨k + 1, _, _, _, by omega, by simp, HSG.out, HVB.out, HBF.out, by simp⟩
              case measure => simp [intOf]; omega
            | cons px ps' =>
              obtain ⟨b1, off1, cap1, ev, hcap, hcell⟩ := HSA.out.row.head
              obtain ⟨c2, rfl⟩ : ∃ c2, cap1 = c2 + 1 := ⟨cap1 - 1, by omega⟩
              subst ev
              have hTL0 := Seg.tail HSA.out.row
              rw [Nat.add_sub_cancel] at hTL0
              by_cases hc2 : c2 = 0
              · subst hc2
                have hTL := hTL0
                rw [if_pos rfl] at hTL
                clear hTL0
                have hown1 : Value.ownBlock (.slice (some ⟨b1, off1, none⟩) (ps'.map hdP).length 0) = some b1 := rfl
                have hpop := HSA.out.pop (v' := .slice (some ⟨b1, off1, none⟩) (ps'.map hdP).length 0) hown1 hTL
                have HPOP := Lib.hid hpop.1
                have HOKP := Lib.hid hpop.2
                have HVB1 := Lib.hid (show Value.ownBlock (.slice (some ⟨b1, off1, none⟩) (ps'.map hdP).length 0) ≠ some bm from HVB.out)
                clear hTL
                obtain ⟨Ap, cp, x⟩ := px
                have hchx := HBK.out.chn x (by simp)
                have HMX := Lib.hid ((chain_iff x).1 hchx.1).1
                have hos : os = secs x ++ (ps'.map Pe.l).flatMap secs := HBK.out.flat
                have hsx : (secs x).length ≤ 60 := by rw [hos, List.length_append] at hosl; omega
                have htx := total_secs x (fun y hy => by have := (may_iff y).1 (HMX.out y hy); omega)
                have hlx : x.length ≤ 60 := by have h1 := length_le_total x HMX.out; omega
                have hr7 : right [(7, (sz : Int))] = true := (right_iff _).2 ⟨fun y hy => by rw [List.mem_singleton] at hy; subst hy; exact (may_iff _).2 ⟨by simp, by dsimp only; omega, by dsimp only; omega⟩, by simp⟩
                have HR7 := Lib.hid hr7
                have CG := Lib.hid (agive_any HPOP.out.pool hFl (by simp) HBK.out.right hr7 Ap x.length cp x rfl (by omega) HOKP.out.1)
                have HGV := Lib.hid (show gvOk F [(7, (sz : Int))] x from ⟨hchx.1, fun u hu => by
                  have hu' : u ∈ os := by rw [hos]; exact List.mem_append_left _ ((mem_secs u x).2 hu)
                  have hrg := HBK.out.range u hu'
                  refine ⟨?_, fun hF => ((HBK.out.mem u).1 hF).2 hu'⟩
                  rw [mem_cons]
                  exact .inl hrg⟩)
                have HNE := Lib.hid hchx.2
                have HTX := Lib.hid htx
                have hc0 : (wr.alloc (.cells #[.int .i64 kd, .int .i64 nd, .slice A' L c'] 39)).cell? ⟨b1, off1, none⟩ = some (.slice Ap x.length cp) := by rw [← HWA.out]; exact hcell
                have tgt : decide (((ps'.map hdP).length : Int) + 1 > 0) = true := by simp
                have hln : (ps'.map hdP).length + 1 ≤ 1 := hcap
                have hpl31 : ps'.length + 1 ≤ k := by simpa using hpk
                clear hpop hcell hchx htx hr7 hcap
                generalize (ps'.map hdP).length = n1 at *
                obtain rfl : n1 = 0 := by omega
                generalize hnx : x.length = nx at *
                have HNX := Lib.hid hnx
                clear hnx
                clear hown1
                go_wp2_with fail
                rw [← HWA.out]
                refine CG.out.mono ?_
                rintro e wb ⟨er, rfl, hon, ⟨rfl, _, F', hF1, hF2, hF3, hpl⟩ | ⟨_, hng, _⟩⟩
                · have HSB := Lib.hid (HPOP.out.only hon hpl)
                  obtain ⟨eos, hbk2⟩ := HBK.out.give hF1 hF2 hF3
                  have HBK2 := Lib.hid hbk2
                  have HEOS := Lib.hid eos
                  have HOKB := Lib.hid (HOKP.out.touch (touch_only hon) (fun _ e => .inl e))
                  have hFl2 : F'.length ≤ 1000 := by
                    have h1 := length_le_total F' ((right_iff F').1 hF1).1
                    have h2 := hbk2.tot
                    omega
                  have CG2 := Lib.hid (agive_any HSB.out.pool hFl2 (by simp) hF1 HR7.out Ap nx cp x HNX.out (by omega) HOKB.out.1)
                  have HNG := Lib.hid (show ¬ gvOk F' [(7, (sz : Int))] x from fun hg => by
                    cases hsec : secs x with
                    | nil => exact HNE.out hsec
                    | cons u r =>
                      have hu : Mem u x := (mem_secs u x).1 (by rw [hsec]; simp)
                      exact (hg.2 u hu).2 ((hF2 u).2 (.inr hu)))
                  clear hon hF1 hF2 hF3 hpl eos hbk2 CG hFl2
                  go_wp2_with fail
                  refine CG2.out.mono ?_
                  rintro e wc ⟨er, rfl, hon, ⟨rfl, hg, _⟩ | ⟨rfl, _, hpl⟩⟩
                  · exact absurd hg HNG.out
                  · have HSC := Lib.hid (HSB.out.only hon hpl)
                    have HOKC := Lib.hid (HOKB.out.touch (touch_only hon) (fun _ e => .inl e))
                    have CS := Lib.hid (rsectors_any wc Ap nx cp x HNX.out (by omega) HMX.out (by have := HTX.out; omega) HOKC.out.1)
                    have hpz : 0 < (secs x).length := by
                      cases hsec : secs x with
                      | nil => exact absurd hsec HNE.out
                      | cons u r => simp
                    clear hon hpl CG2
                    go_wp2_with fail
                    refine CS.out.mono ?_
                    rintro e wd ⟨vr, rfl, hor, hbd⟩
                    have HSD := Lib.hid (HSC.out.keep hbd)
                    have hor' := hor
                    obtain ⟨b', cap, rfl, hb1', hb2'⟩ := World.ownsRow.form hor' hpz
                    have HROW := Lib.hid (OwnI.row hor rfl)
                    have hbm' : some b' ≠ some bm := by
                      have h3 := HSC.out.ml
                      intro e
                      simp only [Option.some.injEq] at e
                      omega
                    have HND := Lib.hid (show (secs x ++ (ps'.map Pe.l).flatMap secs).Nodup from by rw [← HEOS.out]; exact HBK.out.nodup)
                    have HRG := Lib.hid (show ∀ u, u ∈ secs x → 7 ≤ u ∧ u < 7 + (sz : Int) from fun u hu => HBK.out.range u (by rw [HEOS.out]; exact List.mem_append_left _ hu))
                    have HSD2 := Lib.hid (show OnS w wd g bm (sz : Int) F' (secs x ++ (ps'.map Pe.l).flatMap secs) (.slice (some ⟨b1, off1, none⟩) 0 0) ps' from by rw [← HEOS.out]; exact HSD.out)
                    clear hor hor' hbd CS hb1' hos
                    generalize hol : (ps'.map Pe.l).flatMap secs = os' at *
                    generalize hzs : secs x = zs at *
                    generalize hmm' : zs.length = m at *
                    have HLM := Lib.hid hmm'
                    clear hmm' hol hzs
                    go_wp2
                    go_loopw [128] (fun i ws => ∃ (j : Nat) (Ws : World), Ws = ws ∧ j ≤ m ∧ i = .int .i64 (j : Int) ∧ OnS w ws g bm (sz : Int) F' (zs.drop j ++ os') (.slice (some ⟨b1, off1, none⟩) 0 0) ps' ∧ RowI ws b' zs ∧ b' < ws.heap.size) (fun i _ => m - (intOf i).toNat)
                    case atStart => exact ⟨0, _, rfl, Nat.zero_le _, rfl, by rw [List.drop_zero]; exact HSD2.out, HROW.out, hb2'⟩
                    case round =>
                      obtain ⟨j, ws, rfl, hj, rfl, hSj, hrowj, hbj⟩ := hrel
                      have HSJ := Lib.hid hSj
                      have HROWJ := Lib.hid hrowj
                      by_cases hjm : j < m
                      · have hkz : j < zs.length := by rw [HLM.out]; exact hjm
                        have cz : ws.cell? ⟨b', j, none⟩ = some (.int .i64 zs[j]) := hrowj j hkz
                        have t3 : decide ((j : Int) < (m : Int)) = true := by simp; omega
                        have wj : IntKind.i64.wrap ((j : Int) + 1) = (j : Int) + 1 := by rw [IntKind.wrap_i64]; omega
                        have hu64 : -9223372036854775808 ≤ zs[j] ∧ zs[j] ≤ 9223372036854775807 := by have := HRG.out zs[j] (List.getElem_mem hkz); omega
                        have hnot : zs[j] ∉ zs.drop (j + 1) ++ os' := by
                          have h2 := HND.out
                          rw [← List.take_append_drop j zs, List.drop_eq_getElem_cons hkz, List.append_assoc, List.nodup_append] at h2
                          exact (List.nodup_cons.1 h2.2.1).1
                        have hM : MapS ws bm (zs[j] :: (zs.drop (j + 1) ++ os')) := by
                          have h3 := hSj.map
                          rw [List.drop_eq_getElem_cons hkz] at h3
                          exact h3
                        clear hSj hrowj
                        generalize zs[j] = u at *
                        go_wp2_with (at_delete; refine map_del rfl _ _ rfl rfl u hM hu64 rfl hnot ?_; intro we hmd hgd)
                        go_roundw
                        case rel => exact ⟨j + 1, _, rfl, by omega, by simp, HSJ.out.write HVB1.out hgd hmd, HROWJ.out.grown hgd hbj hbm', Nat.lt_of_lt_of_le hbj hgd.size⟩
                        case measure => simp [intOf]; omega
                      · obtain rfl : j = m := by omega
                        have t3 : decide ((j : Int) < (j : Int)) = false := by simp
                        have HSF := Lib.hid (show OnS w ws g bm (sz : Int) F' os' (.slice (some ⟨b1, off1, none⟩) 0 0) ps' from by
                          have h3 := hSj
                          rw [← HLM.out, List.drop_length] at h3
                          exact h3)
                        have HBF := HBK2
                        clear hSj hrowj
                        have hFl : F'.length ≤ 1000 := by
                          have h1 := length_le_total F' ((right_iff F').1 HBF.out.right).1
                          have h2 := HBF.out.tot
                          omega
                        have CFR := Lib.hid (afree_any HSF.out.pool hFl)
                        rw [totC_right HBF.out.right] at CFR
                        have htot := HBF.out.tot
                        have htnn := HBF.out.total_nn
                        clear hFl
                        generalize total F' = T at *
                        go_wp2_with fail
                        refine CFR.out.mono ?_
                        rintro e wf ⟨rfl, hbf⟩
                        have HSG := Lib.hid (HSF.out.keep hbf)
                        have hM := HSG.out.map
                        clear hbf CFR
                        obtain ⟨LO, hLO⟩ : ∃ LO, os'.length = LO := ⟨_, rfl⟩
                        rw [hLO] at htot
                        have wT : IntKind.i64.wrap (T + (LO : Int)) = T + (LO : Int) := by rw [IntKind.wrap_i64]; omega
                        have tT : (T + (LO : Int) == (sz : Int)) = true := by simpa using htot
                        have tT2 : (T + (LO : Int) != (sz : Int)) = false := by simpa using htot
                        have HLO := Lib.hid hLO
                        clear htot htnn hLO
                        go_wp2_with (at_len; refine map_lenN LO HLO.out rfl _ rfl rfl hM ?_)
                        go_roundw
                        case rel => exact ⟨k + 1, _, _, _, by omega, by simp, HSG.out, HVB1.out, HBF.out, by omega⟩
                        case measure => simp [intOf]; omega
                · exact (hng HGV.out).elim
              · have hTL := hTL0
                rw [if_neg (by omega)] at hTL
                clear hTL0
                have hown1 : Value.ownBlock (.slice (some ⟨b1, off1 + 1, none⟩) (ps'.map hdP).length c2) = some b1 := rfl
                have hpop := HSA.out.pop (v' := .slice (some ⟨b1, off1 + 1, none⟩) (ps'.map hdP).length c2) hown1 hTL
                have HPOP := Lib.hid hpop.1
                have HOKP := Lib.hid hpop.2
                have HVB1 := Lib.hid (show Value.ownBlock (.slice (some ⟨b1, off1 + 1, none⟩) (ps'.map hdP).length c2) ≠ some bm from HVB.out)
                clear hTL
                obtain ⟨Ap, cp, x⟩ := px
                have hchx := HBK.out.chn x (by simp)
                have HMX := Lib.hid ((chain_iff x).1 hchx.1).1
                have hos : os = secs x ++ (ps'.map Pe.l).flatMap secs := HBK.out.flat
                have hsx : (secs x).length ≤ 60 := by rw [hos, List.length_append] at hosl; omega
                have htx := total_secs x (fun y hy => by have := (may_iff y).1 (HMX.out y hy); omega)
                have hlx : x.length ≤ 60 := by have h1 := length_le_total x HMX.out; omega
                have hr7 : right [(7, (sz : Int))] = true := (right_iff _).2 ⟨fun y hy => by rw [List.mem_singleton] at hy; subst hy; exact (may_iff _).2 ⟨by simp, by dsimp only; omega, by dsimp only; omega⟩, by simp⟩
                have HR7 := Lib.hid hr7
                have CG := Lib.hid (agive_any HPOP.out.pool hFl (by simp) HBK.out.right hr7 Ap x.length cp x rfl (by omega) HOKP.out.1)
                have HGV := Lib.hid (show gvOk F [(7, (sz : Int))] x from ⟨hchx.1, fun u hu => by
                  have hu' : u ∈ os := by rw [hos]; exact List.mem_append_left _ ((mem_secs u x).2 hu)
                  have hrg := HBK.out.range u hu'
                  refine ⟨?_, fun hF => ((HBK.out.mem u).1 hF).2 hu'⟩
                  rw [mem_cons]
                  exact .inl hrg⟩)
                have HNE := Lib.hid hchx.2
                have HTX := Lib.hid htx
                have hc0 : (wr.alloc (.cells #[.int .i64 kd, .int .i64 nd, .slice A' L c'] 39)).cell? ⟨b1, off1, none⟩ = some (.slice Ap x.length cp) := by rw [← HWA.out]; exact hcell
                have tgt : decide (((ps'.map hdP).length : Int) + 1 > 0) = true := by simp
                have hln : (ps'.map hdP).length + 1 ≤ (c2 + 1) := hcap
                have hpl31 : ps'.length + 1 ≤ k := by simpa using hpk
                clear hpop hcell hchx htx hr7 hcap
                generalize (ps'.map hdP).length = n1 at *
                generalize hnx : x.length = nx at *
                have HNX := Lib.hid hnx
                clear hnx
                clear hown1
                go_wp2_with fail
                rw [← HWA.out]
                refine CG.out.mono ?_
                rintro e wb ⟨er, rfl, hon, ⟨rfl, _, F', hF1, hF2, hF3, hpl⟩ | ⟨_, hng, _⟩⟩
                · have HSB := Lib.hid (HPOP.out.only hon hpl)
                  obtain ⟨eos, hbk2⟩ := HBK.out.give hF1 hF2 hF3
                  have HBK2 := Lib.hid hbk2
                  have HEOS := Lib.hid eos
                  have HOKB := Lib.hid (HOKP.out.touch (touch_only hon) (fun _ e => .inl e))
                  have hFl2 : F'.length ≤ 1000 := by
                    have h1 := length_le_total F' ((right_iff F').1 hF1).1
                    have h2 := hbk2.tot
                    omega
                  have CG2 := Lib.hid (agive_any HSB.out.pool hFl2 (by simp) hF1 HR7.out Ap nx cp x HNX.out (by omega) HOKB.out.1)
                  have HNG := Lib.hid (show ¬ gvOk F' [(7, (sz : Int))] x from fun hg => by
                    cases hsec : secs x with
                    | nil => exact HNE.out hsec
                    | cons u r =>
                      have hu : Mem u x := (mem_secs u x).1 (by rw [hsec]; simp)
                      exact (hg.2 u hu).2 ((hF2 u).2 (.inr hu)))
                  clear hon hF1 hF2 hF3 hpl eos hbk2 CG hFl2
                  go_wp2_with fail
                  refine CG2.out.mono ?_
                  rintro e wc ⟨er, rfl, hon, ⟨rfl, hg, _⟩ | ⟨rfl, _, hpl⟩⟩
                  · exact absurd hg HNG.out
                  · have HSC := Lib.hid (HSB.out.only hon hpl)
                    have HOKC := Lib.hid (HOKB.out.touch (touch_only hon) (fun _ e => .inl e))
                    have CS := Lib.hid (rsectors_any wc Ap nx cp x HNX.out (by omega) HMX.out (by have := HTX.out; omega) HOKC.out.1)
                    have hpz : 0 < (secs x).length := by
                      cases hsec : secs x with
                      | nil => exact absurd hsec HNE.out
                      | cons u r => simp
                    clear hon hpl CG2
                    go_wp2_with fail
                    refine CS.out.mono ?_
                    rintro e wd ⟨vr, rfl, hor, hbd⟩
                    have HSD := Lib.hid (HSC.out.keep hbd)
                    have hor' := hor
                    obtain ⟨b', cap, rfl, hb1', hb2'⟩ := World.ownsRow.form hor' hpz
                    have HROW := Lib.hid (OwnI.row hor rfl)
                    have hbm' : some b' ≠ some bm := by
                      have h3 := HSC.out.ml
                      intro e
                      simp only [Option.some.injEq] at e
                      omega
                    have HND := Lib.hid (show (secs x ++ (ps'.map Pe.l).flatMap secs).Nodup from by rw [← HEOS.out]; exact HBK.out.nodup)
                    have HRG := Lib.hid (show ∀ u, u ∈ secs x → 7 ≤ u ∧ u < 7 + (sz : Int) from fun u hu => HBK.out.range u (by rw [HEOS.out]; exact List.mem_append_left _ hu))
                    have HSD2 := Lib.hid (show OnS w wd g bm (sz : Int) F' (secs x ++ (ps'.map Pe.l).flatMap secs) (.slice (some ⟨b1, off1 + 1, none⟩) n1 c2) ps' from by rw [← HEOS.out]; exact HSD.out)
                    clear hor hor' hbd CS hb1' hos
                    generalize hol : (ps'.map Pe.l).flatMap secs = os' at *
                    generalize hzs : secs x = zs at *
                    generalize hmm' : zs.length = m at *
                    have HLM := Lib.hid hmm'
                    clear hmm' hol hzs
                    go_wp2
                    go_loopw [128] (fun i ws => ∃ (j : Nat) (Ws : World), Ws = ws ∧ j ≤ m ∧ i = .int .i64 (j : Int) ∧ OnS w ws g bm (sz : Int) F' (zs.drop j ++ os') (.slice (some ⟨b1, off1 + 1, none⟩) n1 c2) ps' ∧ RowI ws b' zs ∧ b' < ws.heap.size) (fun i _ => m - (intOf i).toNat)
                    case atStart => exact ⟨0, _, rfl, Nat.zero_le _, rfl, by rw [List.drop_zero]; exact HSD2.out, HROW.out, hb2'⟩
                    case round =>
                      obtain ⟨j, ws, rfl, hj, rfl, hSj, hrowj, hbj⟩ := hrel
                      have HSJ := Lib.hid hSj
                      have HROWJ := Lib.hid hrowj
                      by_cases hjm : j < m
                      · have hkz : j < zs.length := by rw [HLM.out]; exact hjm
                        have cz : ws.cell? ⟨b', j, none⟩ = some (.int .i64 zs[j]) := hrowj j hkz
                        have t3 : decide ((j : Int) < (m : Int)) = true := by simp; omega
                        have wj : IntKind.i64.wrap ((j : Int) + 1) = (j : Int) + 1 := by rw [IntKind.wrap_i64]; omega
                        have hu64 : -9223372036854775808 ≤ zs[j] ∧ zs[j] ≤ 9223372036854775807 := by have := HRG.out zs[j] (List.getElem_mem hkz); omega
                        have hnot : zs[j] ∉ zs.drop (j + 1) ++ os' := by
                          have h2 := HND.out
                          rw [← List.take_append_drop j zs, List.drop_eq_getElem_cons hkz, List.append_assoc, List.nodup_append] at h2
                          exact (List.nodup_cons.1 h2.2.1).1
                        have hM : MapS ws bm (zs[j] :: (zs.drop (j + 1) ++ os')) := by
                          have h3 := hSj.map
                          rw [List.drop_eq_getElem_cons hkz] at h3
                          exact h3
                        clear hSj hrowj
                        generalize zs[j] = u at *
                        go_wp2_with (at_delete; refine map_del rfl _ _ rfl rfl u hM hu64 rfl hnot ?_; intro we hmd hgd)
                        go_roundw
                        case rel => exact ⟨j + 1, _, rfl, by omega, by simp, HSJ.out.write HVB1.out hgd hmd, HROWJ.out.grown hgd hbj hbm', Nat.lt_of_lt_of_le hbj hgd.size⟩
                        case measure => simp [intOf]; omega
                      · obtain rfl : j = m := by omega
                        have t3 : decide ((j : Int) < (j : Int)) = false := by simp
                        have HSF := Lib.hid (show OnS w ws g bm (sz : Int) F' os' (.slice (some ⟨b1, off1 + 1, none⟩) n1 c2) ps' from by
                          have h3 := hSj
                          rw [← HLM.out, List.drop_length] at h3
                          exact h3)
                        have HBF := HBK2
                        clear hSj hrowj
                        have hFl : F'.length ≤ 1000 := by
                          have h1 := length_le_total F' ((right_iff F').1 HBF.out.right).1
                          have h2 := HBF.out.tot
                          omega
                        have CFR := Lib.hid (afree_any HSF.out.pool hFl)
                        rw [totC_right HBF.out.right] at CFR
                        have htot := HBF.out.tot
                        have htnn := HBF.out.total_nn
                        clear hFl
                        generalize total F' = T at *
                        go_wp2_with fail
                        refine CFR.out.mono ?_
                        rintro e wf ⟨rfl, hbf⟩
                        have HSG := Lib.hid (HSF.out.keep hbf)
                        have hM := HSG.out.map
                        clear hbf CFR
                        obtain ⟨LO, hLO⟩ : ∃ LO, os'.length = LO := ⟨_, rfl⟩
                        rw [hLO] at htot
                        have wT : IntKind.i64.wrap (T + (LO : Int)) = T + (LO : Int) := by rw [IntKind.wrap_i64]; omega
                        have tT : (T + (LO : Int) == (sz : Int)) = true := by simpa using htot
                        have tT2 : (T + (LO : Int) != (sz : Int)) = false := by simpa using htot
                        have HLO := Lib.hid hLO
                        clear htot htnn hLO
                        go_wp2_with (at_len; refine map_lenN LO HLO.out rfl _ rfl rfl hM ?_)
                        go_roundw
                        case rel => exact ⟨k + 1, _, _, _, by omega, by simp, HSG.out, HVB1.out, HBF.out, by omega⟩
                        case measure => simp [intOf]; omega
                · exact (hng HGV.out).elim
        · obtain rfl : k = N := by omega
          have t1 : decide ((k : Int) < (k : Int)) = false := by simp
          have HF := Lib.hid HS.out.below
          go_wp2
          go_ret
          exact ⟨rfl, HF.out⟩
    · exact absurd ⟨(may_iff _).2 ⟨by simp, by dsimp only; omega, by simp; omega⟩, rfl, fun u h => absurd h (mem_nil u)⟩ ho
end Go.Proofs.Ytjeiechkndfhmaa
