/-
  The contract of the reference's Wrap where it wraps. Conditions: the slices hold their bytes.
-/
import Derived.Test.YtonoidhlbnbhcaaDoorWrRefWrap
import Derived.Test.YtonoidhlbnbhcaaDoorWrCut
import Derived.Test.YtonoidhlbnbhcaaDoorQuietTail2
import Derived.Deep.QuietTactic
import Derived.BigQuiet
namespace Go.Proofs.YtonoidhlbnbhcaaDoor
open Go.RowKit Arr Gf Sb Ae Wr

theorem mk_owns (w : World) (B : Nat) (hB : B ≤ w.heap.size) : (w.alloc (.cells #[.int .u8 166, .int .u8 166, .int .u8 166, .int .u8 166, .int .u8 166, .int .u8 166, .int .u8 166, .int .u8 166] 5)).ownsRow B 5 1 (.slice (some ⟨w.heap.size, 0, none⟩) 8 8) 8 (vals .u8 mk) := by
  have := World.ownsRow_lit (base := B) (e := 5) (size := 1) w (vals .u8 mk).toArray 8 hB (by unfold maxLen; omega) rfl
  have e : (vals .u8 mk).toArray = #[.int .u8 166, .int .u8 166, .int .u8 166, .int .u8 166, .int .u8 166, .int .u8 166, .int .u8 166, .int .u8 166] := rfl
  rw [e] at this
  exact this

set_option maxHeartbeats 8000000 in
set_option maxRecDepth 10000 in
theorem rwrap_some (ks key : List Nat) (A0 A1 : Option Addr) (n0 c0 n1 c1 : Nat) (h0 : ks.length = n0) (h1 : key.length = n1) (hc1 : n1 ≤ c1) (hk : ks.length = 16 ∨ ks.length = 32) (hm : may (n1 : Int) = true)
    (w : World) (hb0 : Bys w w.heap.size A0 ks) (hb1 : Bys w w.heap.size A1 key) :
    Calls Tryd.prog 8 #[.slice A0 n0 c0, .slice A1 n1 c1] w (GivesE (wrapL (rr ks) (kk ks) key) 0 w) := by
  obtain ⟨m1, m2, m3⟩ := may_of hm
  obtain ⟨n, hn⟩ : ∃ n, n1 = 8 * n := ⟨n1 / 8, by omega⟩
  have hn2 : 2 ≤ n := by omega
  have hn8 : n ≤ 8 := by omega
  have hk' : n0 = 16 ∨ n0 = 32 := by rw [← h0]; exact hk
  obtain ⟨kb, ko, rfl, hkb, hkc⟩ := hb1.2 (by omega)
  have HKC : Go.RowKit.Hid (∀ k, k < n1 → w.cell? ⟨kb, ko + k, none⟩ = some (.int .u8 ((key.getD k 0 : Nat) : Int))) := Lib.hid (fun k hk => hkc k (by omega))
  have CM := Lib.hid (make_enc ks hk A0 n0 c0 h0 w hb0)
  have HK0 := tx_key n (h1.trans hn) hb1.1
  obtain ⟨F, hF⟩ : ∃ F, F = enc (rr ks) (kk ks) := ⟨_, rfl⟩
  have HFS := Lib.hid (show ∀ b, St b → St (F b) by rw [hF]; exact fun b hb => st_enc (kk_ok hk) hb)
  obtain ⟨W, hW⟩ : ∃ W : Nat → List Nat, W = wrp F n (mk ++ key) := ⟨_, rfl⟩
  have HW0 := Lib.hid (show W 0 = mk ++ key by rw [hW]; rfl)
  have HWT := Lib.hid (show ∀ t, Tx n (W t) by rw [hW, hF]; exact fun t => tx_wrp (fun b hb => st_enc (kk_ok hk) hb) (by omega) HK0 t)
  have HWS : Go.RowKit.Hid (∀ j i t, i < n → t = j * n + i + 1 → W t = ly (W (j * n + i)) (8 * (i + 1)) (ct (F (jn (W (j * n + i)) (8 * (i + 1)))) t)) := Lib.hid (fun j i t hi ht => by
    subst ht
    have hp := pl_at n j i hi
    rw [hW]
    show stp F n (wrp F n (mk ++ key) (j * n + i)) (j * n + i + 1) = _
    rw [stp, hp])
  have HWE := Lib.hid (show W (6 * n) = wrapL (rr ks) (kk ks) key by rw [hW, hF, wrapL, show key.length / 8 = n by omega])
  have HWK := Lib.hid (show ∀ k, k < n1 → (W 0).getD (8 + k) 0 = key.getD k 0 by
    intro k _
    rw [HW0.out, List.getD_eq_getElem?_getD, List.getElem?_append_right (by simp [mk]), show (mk : List Nat).length = 8 from rfl, Nat.add_sub_cancel_left, ← List.getD_eq_getElem?_getD])
  have HW8 := Lib.hid (show (W 0).take 8 = mk by rw [HW0.out]; rfl)
  have hlen : (wrapL (rr ks) (kk ks) key).length = 8 * (n + 1) := (tx_wrapL (kk_ok hk) n (by omega) (h1.trans hn) hb1.1).1
  have HLEN := Lib.hid hlen
  have HOB := Lib.hid (tx_wrapL (kk_ok hk) n (by omega) (h1.trans hn) hb1.1).mem
  unfold MadeEnc at CM
  rw [← hF] at CM
  have e1 : (n1 : Int).tmod 8 = (n1 : Int) % 8 := Int.tmod_eq_emod_of_nonneg (by omega)
  have e2 : (n1 : Int) % 8 = 0 := m3
  have t2 : decide ((n1 : Int) < 16) = false := by simp; omega
  have t3 : decide (n1 < 16) = false := by simp; omega
  have t4 : decide ((64 : Int) < (n1 : Int)) = false := by simp; omega
  have t5 : decide (64 < n1) = false := by simp; omega
  have HN := Lib.hid hn
  have hn1 : n1 ≤ 64 := by omega
  clear hb0 hb1 h0 h1 hk hm hkc hF hW HK0 hn hlen m1 m2 m3
  generalize wrapL (rr ks) (kk ks) key = out at *
  go_enter Tryd.func8, Tryd.ntmps8
  go_upto_region 1 with fail
  go_cut [28] from 21 to 28 (fun v wx => v = .bool false ∧ w = wx)
  case first =>
    rcases hk' with h | h
    · subst h
      clear CM HFS HW0 HWT HWS HWE HWK HW8 HLEN HOB HKC
      go_wp2_with fail
      go_meet
      case rel => exact ⟨rfl, rfl⟩
    · subst h
      clear CM HFS HW0 HWT HWS HWE HWK HW8 HLEN HOB HKC
      go_wp2_with fail
      go_meet
      case rel => exact ⟨rfl, rfl⟩
  case rest =>
    obtain ⟨rfl, rfl⟩ := hcut
    clear hk'
    go_wp2_with fail
    refine CM.out.mono ?_
    rintro e w1 ⟨gk, rfl, hB1, hE⟩
    have HB1 := Lib.hid hB1
    have CE := Lib.hid hE
    have hs1 := hB1.size
    have HKC1 : Go.RowKit.Hid (∀ k, k < n1 → w1.cell? ⟨kb, ko + k, none⟩ = some (.int .u8 (((W 0).getD (8 + k) 0 : Nat) : Int))) := Lib.hid (fun k hk => by rw [HWK.out k hk]; exact (hB1.cell (p := ⟨kb, ko + k, none⟩) hkb).trans (HKC.out k hk))
    have hkb1 : kb < w1.heap.size := by omega
    clear hB1 hE CM HKC HWK
    have HA := Lib.hid (mk_owns w1 w1.heap.size (Nat.le_refl _))
    have HL2 := Lib.hid (below_alloc w1 (.cells #[.int .u8 166, .int .u8 166, .int .u8 166, .int .u8 166, .int .u8 166, .int .u8 166, .int .u8 166, .int .u8 166] 5))
    have hs2 : (w1.alloc (.cells #[.int .u8 166, .int .u8 166, .int .u8 166, .int .u8 166, .int .u8 166, .int .u8 166, .int .u8 166, .int .u8 166] 5)).heap.size = w1.heap.size + 1 := World.size_alloc ..
    go_upto_region 7 with fail
    generalize w1.alloc (.cells #[.int .u8 166, .int .u8 166, .int .u8 166, .int .u8 166, .int .u8 166, .int .u8 166, .int .u8 166, .int .u8 166] 5) = w2 at *
    have HS2 := Lib.hid hs2
    clear hs2
    go_wp2_with fail
    go_loopw [8, 9] (fun rv i wr => ∃ m e : Nat, m ≤ n ∧ Go.RowKit.Hid (e = 8 * m) ∧ i = .int .i64 (e : Nat) ∧ wr.ownsRow w2.heap.size 22 1 rv m (heads kb ko c1 m) ∧ Below w2.heap.size w2 wr) (fun _ i _ => n1 - (intOf i).toNat)
    case atStart => exact ⟨0, 0, by omega, Lib.hid rfl, rfl, World.ownsRow_nil _ _ _ _, Below.refl _ _⟩
    case round =>
      obtain ⟨m, e, hmn, hem, rfl, ho, hb⟩ := hrel
      by_cases hlt : m < n
      · as_aux_lemma =>
        have he1 : e + 8 ≤ n1 := by have := hem.out; have := HN.out; omega
        have tt : decide ((e : Int) < (n1 : Int)) = true := by simp; omega
        have tt2 : decide (e < n1) = true := by simp; omega
        obtain ⟨e8, he8⟩ : ∃ e8, e8 = e + 8 := ⟨_, rfl⟩
        have q1 : (e : Int) + 8 = (e8 : Int) := by omega
        have q2 : IntKind.i64.wrap (e8 : Int) = (e8 : Int) := wrap_nat e8 (by omega)
        have hrun := fun W => run_piece kb ko n1 c1 e e8 (by omega) (by omega) (by omega) W
        have hd : e8 - e = 8 := by omega
        rw [hd] at hrun
        have HHS := Lib.hid (show heads kb ko c1 (m + 1) = heads kb ko c1 m ++ [.slice (some ⟨kb, ko + e, none⟩) 8 (c1 - e)] by rw [heads_succ, ← hem.out])
        have HE8 := Lib.hid (show e8 = 8 * (m + 1) by have := hem.out; omega)
        have HO := Lib.hid ho
        have HB := Lib.hid hb
        have hsz := hb.size
        clear ho hb hem he8 hd CE HFS HW0 HWT HWS HWE HW8 HLEN HOB HKC1 HA HB1 HL2 HN
        go_wp2_with (at_builtin; refine append_one rfl (.tmp 52) (.tmp 58) 44 rfl w2.heap.size 22 (.slice none 0 0) 24 Tryd.underlying44 info_row rfl _ m _ (.slice (some ⟨kb, ko + e, none⟩) 8 (c1 - e)) rfl HO.out rfl rfl (by omega) (by omega) hsz ?_; intro v' w4 hown2 hbel2)
        go_roundw
        case rel => exact ⟨m + 1, e8, by omega, HE8, by go_num, by rw [HHS.out]; exact hown2, HB.out.trans hbel2⟩
        case measure => simp [intOf]; omega
      · as_aux_lemma =>
        obtain rfl : m = n := by omega
        obtain rfl : e = n1 := by have := hem.out; have := HN.out; omega
        have tt : decide ((e : Int) < (e : Int)) = false := by simp
        have tt2 : decide (e < e) = false := by simp
        obtain ⟨gr, cr, rfl, hgrB, hgrs⟩ := ho.form (by omega)
        have hb2 := HL2.out.trans (hb.mono HL2.out.size)
        have hga2 : w1.heap.size < w2.heap.size := by have := HS2.out; omega
        have R0 : Rw w1 gr m cr w1.heap.size 8 8 (W 0) (heads kb ko c1 m) wr := by
          refine ⟨?_, World.ownsRow.mono ho HL2.out.size, by omega, fun i hi => ?_, hb2⟩
          · rw [HW8.out]
            exact HA.out.kept (row := none) ⟨hb.os, hb.tape, hb.output, hb.size, fun k hk _ => hb.block k hk⟩ (.inr (by simp [Value.ownBlock]))
          · refine ⟨kb, ko + 8 * i, _, heads_get _ _ _ _ _ hi, Nat.lt_of_lt_of_le hkb1 hb2.size, by omega, by omega, fun k hk => ?_⟩
            have hlt2 : 8 * i + k < e := by have := HN.out; omega
            rw [(hb2.cell (p := ⟨kb, ko + 8 * i + k, none⟩) hkb1), Nat.add_assoc, HKC1.out _ hlt2]
            congr 4; omega
        have HR0 := Lib.hid R0
        clear ho hb hb2 R0 HA HL2 HKC1 hem hgrB hgrs HW8 HW0 tt2 HN hlt hmn
        obtain ⟨w3, rfl⟩ : ∃ w3 : World, w3 = wr := ⟨_, rfl⟩
        generalize heads kb ko c1 m = hs0 at *
        generalize hga0 : w1.heap.size = ga0 at HR0
        have hga0' := Lib.hid hga0
        clear hga0
        go_wp2_with fail
        go_loopw [7, 10, 11] (fun av tv jv wr => ∃ (j t ga ca : Nat) (hs : List Value), j ≤ 6 ∧ jv = .int .i64 (j : Nat) ∧ tv = .int .i64 (t : Nat) ∧ t ≤ 48 ∧ Go.RowKit.Hid (t = j * m) ∧ av = .slice (some ⟨ga, 0, none⟩) 8 ca ∧ Rw w1 gr m cr ga 8 ca (W t) hs wr) (fun _ _ jv _ => 6 - (intOf jv).toNat)
        case atStart => exact ⟨0, 0, ga0, 8, hs0, by omega, rfl, rfl, by omega, Lib.hid (by omega), rfl, HR0.out⟩
        case round =>
          clear HR0
          obtain ⟨j, t, ga, ca, hs, hj, rfl, rfl, ht48, htj, rfl, hR⟩ := hrel
          have HR := Lib.hid hR
          clear hR
          by_cases hlt : j < 6
          · as_aux_lemma =>
            have tt : decide ((j : Int) < 6) = true := by simp; omega
            have wj : IntKind.i64.wrap ((j : Int) + 1) = (j : Int) + 1 := by rw [IntKind.wrap_i64]; omega
            obtain ⟨w4, rfl⟩ : ∃ w4 : World, w4 = wr := ⟨_, rfl⟩
            have HTE : Go.RowKit.Hid (t + m ≤ 48 ∧ t + m = (j + 1) * m) := Lib.hid (by
              have h1 := htj.out
              have h2 : (j + 1) * m = j * m + m := Nat.succ_mul j m
              have h3 : j * m ≤ 5 * m := Nat.mul_le_mul_right m (by omega)
              omega)
            clear HLEN HOB HWE
            go_wp2_with fail
            go_loopw [7, 10, 12] (fun av tv iv wr => ∃ (i s ga ca : Nat) (hs : List Value), i ≤ m ∧ iv = .int .i64 (i : Nat) ∧ tv = .int .i64 (s : Nat) ∧ Go.RowKit.Hid (s = t + i) ∧ av = .slice (some ⟨ga, 0, none⟩) 8 ca ∧ Rw w1 gr m cr ga 8 ca (W s) hs wr) (fun _ _ iv _ => m - (intOf iv).toNat)
            case atStart => exact ⟨0, t, ga, ca, hs, by omega, rfl, rfl, Lib.hid rfl, rfl, HR.out⟩
            case round =>
              clear HR
              obtain ⟨i, s, ga, ca, hs, hi, rfl, rfl, hsi, rfl, hR⟩ := hrel
              by_cases hlt2 : i < m
              · as_aux_lemma =>
                have tt3 : decide ((i : Int) < (m : Int)) = true := by simp; omega
                have tt4 : decide (i < m) = true := by simp; omega
                have tt5 : i < m := hlt2
                have wi : IntKind.i64.wrap ((i : Int) + 1) = (i : Int) + 1 := by rw [IntKind.wrap_i64]; omega
                obtain ⟨w5, rfl⟩ : ∃ w5 : World, w5 = wr := ⟨_, rfl⟩
                obtain ⟨s1, hs1'⟩ : ∃ s1, s1 = s + 1 := ⟨_, rfl⟩
                have hs48 : s1 ≤ 100 := by have := hsi.out; have := HTE.out.1; omega
                have HS1 := Lib.hid hs1'
                have es1 : (s : Int) + 1 = (s1 : Int) := by omega
                have ws1 : IntKind.i64.wrap (s1 : Int) = (s1 : Int) := wrap_nat s1 (by omega)
                have wu1 : IntKind.u64.wrap (s1 : Int) = (s1 : Int) := by rw [IntKind.wrap_u64]; omega
                have HX := HWT.out s
                have HSTEP := Lib.hid (show W s1 = ly (W s) (8 * (i + 1)) (ct (F (jn (W s) (8 * (i + 1)))) s1) by
                  have h1 := htj.out
                  have h2 := hsi.out
                  have := HWS.out j i s1 hlt2 (by omega)
                  rwa [show j * m + i = s by omega] at this)
                have St0 := st_jn HX.2 (8 * (i + 1))
                have St1 := HFS.out _ St0
                have St2 := st_ct St1 s1
                have HLL := Lib.hid HX
                clear hs1'
                generalize W s = L at *
                obtain ⟨pb, po, pc, hpe, hp1, hp2, hp3, hp4⟩ := hR.ps i hlt2
                obtain ⟨o, ho⟩ : ∃ o, o = 8 * (i + 1) := ⟨_, rfl⟩
                rw [← ho] at hp4 HSTEP St0 St1 St2
                have HOI := Lib.hid ho
                have hX1 := HX.1
                have hL16 : 16 ≤ L.length := by omega
                have hgaB := hR.gaB
                have hgrB := hR.grB
                have HR := Lib.hid hR
                have HP4 := Lib.hid hp4
                have HPE := Lib.hid hpe
                have Z0 := Lib.hid (Holds.new w5 45 .u8 (zs 16))
                have B0 := Lib.hid (below_alloc w5 (.cells (na .u8 (zs 16)) 45))
                clear hR hp4 hpe HX ho hX1 HFS HWT HWS
                go_upto_region 20 with (first | (with_reducible refine Arr.alloc (t := 45) _ z16 ?_) | fail)
                generalize w5.alloc (.cells (na .u8 (zs 16)) 45) = w6 at *
                go_wp2_with fail
                go_loopw [14] (fun kv wr => ∃ k : Nat, k ≤ 8 ∧ kv = .int .i64 (k : Nat) ∧ Holds wr w5.heap.size .u8 (jk L o k) ∧ Below w5.heap.size w5 wr) (fun kv _ => 8 - (intOf kv).toNat)
                case atStart => exact ⟨0, by omega, rfl, by rw [jk_zero]; exact Z0.out, B0.out⟩
                case round =>
                  clear Z0 B0
                  obtain ⟨k, hk, rfl, hh, hb⟩ := hrel
                  have lk := length_jk L o k
                  by_cases hlt3 : k < 8
                  · as_aux_lemma =>
                    have tk : decide ((k : Int) < 8) = true := by simp; omega
                    have tki : (k : Int) < 8 := by omega
                    have wk : IntKind.i64.wrap (k : Int) = (k : Int) := wrap_nat k (by omega)
                    have wk1 : IntKind.i64.wrap ((k : Int) + 1) = (k : Int) + 1 := by rw [IntKind.wrap_i64]; omega
                    obtain ⟨q, hq⟩ : ∃ q, q = 8 + k := ⟨_, rfl⟩
                    have eq8 : (8 : Int) + (k : Int) = (q : Int) := by omega
                    have wq8 : IntKind.i64.wrap (q : Int) = (q : Int) := wrap_nat q (by omega)
                    have hq16 : (q : Int) < 16 := by omega
                    have hq16' : q < 16 := by omega
                    have HJS := Lib.hid (jk_succ L o k hlt3)
                    rw [← hq] at HJS
                    have ca1 := (hb.cell (p := ⟨ga, k, none⟩) hgaB.2).trans (HR.out.aCell k hlt3 (by omega))
                    have cr1 := ((hb.cell (p := ⟨gr, i, none⟩) hgrB.2).trans (HR.out.rCell i hlt2)).trans HPE.out
                    have cp1 := (hb.cell (p := ⟨pb, po + k, none⟩) hp1).trans (HP4.out k hlt3)
                    have d1 := hh.cell k (by omega)
                    have f1 := hh.frozen k (by omega)
                    have d2 := hh.cell q (by omega)
                    have f2 := hh.frozen q (by omega)
                    have X1 := (hh.set k (L.getD k 0) (by omega)).set q (L.getD (o + k) 0) (by rw [List.length_set]; omega)
                    rw [← HJS.out] at X1
                    have X2 := (hb.setCell (p := ⟨w5.heap.size, k, none⟩) (Nat.le_refl _) (.int .u8 ((L.getD k 0 : Nat) : Int))).setCell (p := ⟨w5.heap.size, q, none⟩) (Nat.le_refl _) (.int .u8 ((L.getD (o + k) 0 : Nat) : Int))
                    have X1 := Lib.hid X1
                    have X2 := Lib.hid X2
                    have hne1 : ¬ (k = q) := by omega
                    have hne2 : ¬ (ga = w5.heap.size) := by omega
                    have hne3 : ¬ (gr = w5.heap.size) := by omega
                    have hne4 : ¬ (pb = w5.heap.size) := by omega
                    clear hh hb hq HJS HLL HSTEP HR HP4 HPE HOI
                    generalize L.getD k 0 = x at *
                    generalize L.getD (o + k) 0 = y at *
                    generalize (jk L o k).getD k 0 = v1 at *
                    generalize (jk L o k).getD q 0 = v2 at *
                    generalize w5.heap.size = g5 at *
                    go_wp2
                    go_roundw
                    case rel => exact ⟨k + 1, by omega, by go_num, X1.out, X2.out⟩
                    case measure => simp [intOf]; omega
                  · as_aux_lemma =>
                    obtain rfl : k = 8 := by omega
                    rw [jk_all] at hh lk
                    have HR7 := Lib.hid (HR.out.later hb)
                    have HH := Lib.hid hh
                    have HBE := Lib.hid hb
                    have hbw1 : Below w1.heap.size w1 wr := HR7.out.bel
                    have CE7 := CE.out (jn L o) St0 wr hbw1
                    have CE7 := Lib.hid CE7
                    clear hh hb CE hbw1 St0
                    generalize jn L o = b0 at *
                    obtain ⟨w7, rfl⟩ : ∃ w7 : World, w7 = wr := ⟨_, rfl⟩
                    have hgb7 := HH.out.lt (by omega)
                    have hs57 := HBE.out.size
                    obtain ⟨gb, hgb⟩ : ∃ gb, gb = w5.heap.size := ⟨_, rfl⟩
                    rw [← hgb] at HH hgb7
                    have HGB := Lib.hid hgb
                    have hgb5 : w5.heap.size ≤ gb := by omega
                    rw [← hgb]
                    clear hgb
                    go_wp2_with (first | (with_reducible refine Arr.load o16 gb b0 lk HH.out rfl ?_) | fail)
                    refine CE7.out.mono ?_
                    rintro e w8 ⟨rfl, hb8⟩
                    have HH8 := Lib.hid (HH.out.below hb8 hgb7)
                    have B8 := Lib.hid (HBE.out.trans (hb8.mono hs57))
                    have lE := St1.1
                    have B9 := Lib.hid (below_setCells (b := gb) hgb5 (nv .u8 (F b0)) 0 _ B8.out)
                    have HH9 := Lib.hid (HH8.out.put (F b0) (by rw [lE, lk]))
                    have hs9 : (w8.setCells gb 0 (nv .u8 (F b0))).heap.size = w8.heap.size := size_setCells _ _ _ _
                    have hs8 : w7.heap.size ≤ w8.heap.size := hb8.size
                    clear hb8 HH HBE CE7 HR7
                    go_upto_region 26 with (first | (with_reducible refine Arr.store o16 gb b0 (F b0) lk HH8.out lE rfl rfl ?_) | fail)
                    generalize F b0 = E at *
                    generalize w8.setCells gb 0 (nv .u8 E) = w9 at *
                    clear HH8 B8
                    have CP := Lib.hid (rput64_any s1 (by omega) w9)
                    go_wp2_with fail
                    refine CP.out.mono ?_
                    rintro e wc ⟨A7, c7, rfl, hy7, hb10⟩
                    have hgb9 : gb < w9.heap.size := by omega
                    have HHc := Lib.hid (HH9.out.below hb10 hgb9)
                    have L8 := length_bytesOf s1 8
                    have B10 := Lib.hid (B9.out.trans (hb10.mono (by omega)))
                    obtain ⟨bc, oc, rfl, hbc, hcc⟩ := hy7.2 (by omega)
                    have HCC := Lib.hid hcc
                    have HCB := Lib.hid (fun k => bytes_get_lt s1 k)
                    have HPX : Go.RowKit.Hid (∀ k, k < 8 → ((ct E s1).take 8).getD k 0 = E.getD k 0 ^^^ (bytesOf s1 8).getD k 0 ∧ ((ct E s1).drop 8).getD k 0 = E.getD (8 + k) 0) := Lib.hid (fun k hk => ⟨by rw [take8_get _ _ hk, ct_lo _ _ _ hk], by rw [drop8_get, ct_hi _ _ _ hk]⟩)
                    have lX := St2.1
                    have lP : ((ct E s1).take 8).length = 8 := by rw [List.length_take, lX]; rfl
                    have lQ : ((ct E s1).drop 8).length = 8 := by rw [List.length_drop, lX]
                    have HEB := Lib.hid St1.2
                    rw [L8]
                    rw [L8] at HCC
                    have hgbc : gb < wc.heap.size := by have := hb10.size; omega
                    clear hy7 hb10 hcc HH9 B9 CP St1 St2 hs9 hs8
                    generalize bytesOf s1 8 = cn at *
                    generalize hXX : ct E s1 = X at *
                    clear hXX
                    have HT0 := Lib.hid (TwoRows.begin wc (X.take 8) (X.drop 8))
                    go_wp2_with fail
                    go_loopw [16, 17, 18] (fun sp sq kv wr => ∃ (k : Nat) (vp vq : Value), k ≤ 8 ∧ kv = .int .i64 (k : Nat) ∧ vp = sp ∧ vq = sq ∧ TwoRows wc.heap.size wc vp vq k k (X.take 8) (X.drop 8) wr) (fun _ _ kv _ => 8 - (intOf kv).toNat)
                    case atStart => exact ⟨0, _, _, by omega, rfl, rfl, rfl, HT0.out⟩
                    case round =>
                      clear HT0
                      obtain ⟨k, vp, vq, hk, rfl, rfl, rfl, hT⟩ := hrel
                      have hszr := hT.bel.size
                      by_cases hlt4 : k < 8
                      · as_aux_lemma =>
                        have tk : decide ((k : Int) < 8) = true := by simp; omega
                        have tki : (k : Int) < 8 := by omega
                        have tki2 : (k : Int) < 16 := by omega
                        have wk : IntKind.i64.wrap (k : Int) = (k : Int) := wrap_nat k (by omega)
                        have wk1 : IntKind.i64.wrap ((k : Int) + 1) = (k : Int) + 1 := by rw [IntKind.wrap_i64]; omega
                        obtain ⟨q, hq⟩ : ∃ q, q = 8 + k := ⟨_, rfl⟩
                        have eq8 : (8 : Int) + (k : Int) = (q : Int) := by omega
                        have wq8 : IntKind.i64.wrap (q : Int) = (q : Int) := wrap_nat q (by omega)
                        have hq16 : (q : Int) < 16 := by omega
                        have hq16' : q < 16 := by omega
                        obtain ⟨px, qx⟩ := HPX.out k hlt4
                        rw [← hq] at qx
                        have hx := u8_xor_nat _ _ (HEB.out k) (HCB.out k)
                        have c1 := (hT.bel.cell (p := ⟨gb, k, none⟩) hgbc).trans (HHc.out.cell k (by omega))
                        have c2 := (hT.bel.cell (p := ⟨bc, oc + k, none⟩) hbc).trans (HCC.out k hlt4)
                        have c3 := (hT.bel.cell (p := ⟨gb, q, none⟩) hgbc).trans (HHc.out.cell q (by omega))
                        have HT := Lib.hid hT
                        have PX := Lib.hid px
                        have QX := Lib.hid qx
                        clear hq px qx hT HPX HEB HCB HHc HCC HLL HSTEP
                        generalize hz : E.getD k 0 ^^^ cn.getD k 0 = z at *
                        clear hz
                        generalize E.getD k 0 = x at *
                        generalize cn.getD k 0 = y at *
                        generalize E.getD q 0 = v at *
                        have tq : decide ((8 : Int) + (k : Int) < 16) = true := by simp; omega
                        go_upto_region 33 with fail
                        refine region_move_quiet_tail 9 (by kernel_rfl) (by kernel_rfl) (.tmp 16) vp rfl rfl rfl (fun _ _ _ _ h => h) ?_
                        simp only [List.take_succ_cons, List.take_zero, List.drop_succ_cons, List.drop_zero, Nat.add_one_sub_one, Act.put, List.setIfInBounds_toArray, List.set_cons_zero, List.set_cons_succ]
                        repeat (go_big_quiet_step (fail))
                        refine wpQuiet_nil ?_
                        intro wd hwd
                        have T1 : TwoRows wc.heap.size wc vp vq k k (X.take 8) (X.drop 8) wd := by obtain ⟨n, rfl⟩ := hwd; exact HT.out.drewN n
                        have d3 : wd.cell? ⟨gb, q, none⟩ = some (.int .u8 ((v : Nat) : Int)) := by obtain ⟨n, rfl⟩ := hwd; exact c3
                        have hszd : wc.heap.size ≤ wd.heap.size := T1.bel.size
                        clear hwd HT c1 c2 c3 hszr
                        have HT1 := Lib.hid T1
                        clear T1
                        go_upto_region 34 with (at_builtin; refine append_lie rfl (.tmp 102) (.tmp 111) 22 rfl wc.heap.size 5 (.int .u8 0) 1 Tryd.underlying22 info_u8 rfl vp k _ (.int .u8 (z : Int)) rfl HT1.out.p rfl rfl (by omega) (by omega) hszd ?_; intro g2 cap2 w11 hown2 hgr2 hat2 hlt11)
                        have hgs := hgr2.size
                        have c31 : w11.cell? ⟨gb, q, none⟩ = some (.int .u8 ((v : Nat) : Int)) := by
                          rw [hgr2.cell_far ⟨gb, q, none⟩ (by show gb < _; omega) (fun e => by
                            have := (HT1.out.p.lt gb e.symm).1; omega)]
                          exact d3
                        have T2 := HT1.out.moreP hszd (by omega) (by rw [PX.out]; exact hown2) hgr2 hat2
                        have HT2 := Lib.hid T2
                        have hsz11 := T2.bel.size
                        clear T2 HT1 hown2 hgr2 hat2 d3
                        go_wp2_with (at_builtin; refine append_lie rfl (.tmp 113) (.tmp 118) 22 rfl wc.heap.size 5 (.int .u8 0) 1 Tryd.underlying22 info_u8 rfl vq k _ (.int .u8 (v : Int)) rfl HT2.out.q rfl rfl (by omega) (by omega) hsz11 ?_; intro g3 cap3 w12 hown3 hgr3 hat3 hlt12)
                        have T3 := HT2.out.moreQ hsz11 (by omega) (by rw [QX.out]; exact hown3) hgr3 hat3
                        go_roundw
                        case rel => exact ⟨k + 1, _, _, by omega, by go_num, rfl, rfl, T3⟩
                        case measure => simp [intOf]; omega
                      · as_aux_lemma =>
                        obtain rfl : k = 8 := by omega
                        obtain ⟨gp, cp, rfl, hgp, hgp2⟩ := hT.p.form (by omega)
                        obtain ⟨gq, cq, rfl, hgq, hgq2⟩ := hT.q.form (by omega)
                        have hpq : gp ≠ gq := fun e => hT.dis gp rfl (by rw [e]; rfl)
                        have hp := hT.p
                        have hq := hT.q
                        rw [show (X.take 8).take 8 = X.take 8 by rw [List.take_take]; rfl] at hp
                        rw [show (X.drop 8).take 8 = X.drop 8 by rw [List.take_of_length_le (by omega)]] at hq
                        have hbr : Below w5.heap.size w5 wr := B10.out.trans (hT.bel.mono B10.out.size)
                        have RS := HR.out.step hbr hlt2 B10.out.size lX HLL.out hp hq hpq
                        have hR5 := HR.out.later hbr
                        have cgr := (hR5.rCell i hlt2).trans HPE.out
                        have fgr := hR5.r.frozenAt i
                        rw [← HOI.out, ← HSTEP.out] at RS
                        have RS := Lib.hid RS
                        have HSI := Lib.hid (show s1 = t + (i + 1) by have h1 := hsi.out; have h2 := HS1.out; omega)
                        clear hT hp hq hpq hbr hR5 HR HPE HLL HSTEP HOI HPX HEB HCB HHc HCC HP4 hsi HS1 B10
                        go_wp2
                        go_roundw
                        case rel => exact ⟨i + 1, s1, gp, cp, _, by omega, by go_num, by go_num, HSI, rfl, RS.out⟩
                        case measure => simp [intOf]; omega
              · as_aux_lemma =>
                obtain rfl : i = m := by omega
                have tt3 : decide ((i : Int) < (i : Int)) = false := by simp
                have tt4 : decide (i < i) = false := by simp
                have HR := Lib.hid hR
                have HSI : Go.RowKit.Hid (s = (j + 1) * i ∧ s ≤ 48) := Lib.hid (by have h1 := hsi.out; have h2 := HTE.out; omega)
                clear hR hsi HFS HWT HWS CE
                go_wp2
                go_roundw
                case rel => exact ⟨j + 1, s, ga, ca, hs, by omega, by go_num, rfl, HSI.out.2, Lib.hid HSI.out.1, rfl, HR.out⟩
                case measure => simp [intOf]; omega
          · as_aux_lemma =>
            have tt : decide ((j : Int) < 6) = false := by simp; omega
            have hj6 : j = 6 := by omega
            have hR := HR.out
            rw [htj.out, hj6, HWE.out] at hR
            have HR6 := Lib.hid hR
            clear hR HR HFS HWT HWS HWE CE htj hj6 hlt
            have hjI : ¬ ((j : Int) < 6) := by simpa using tt
            go_wp2_with fail
            go_loopw [19, 20] (fun ov iv wr => ∃ i mm go co : Nat, i ≤ m ∧ iv = .int .i64 (i : Nat) ∧ Go.RowKit.Hid (mm = 8 * (i + 1)) ∧ mm ≤ 72 ∧ ov = .slice (some ⟨go, 0, none⟩) mm co ∧ Rw w1 gr m cr go mm co out hs wr) (fun _ iv _ => m - (intOf iv).toNat)
            case atStart => exact ⟨0, 8, ga, ca, by omega, rfl, Lib.hid rfl, by omega, rfl, HR6.out⟩
            case round =>
              clear HR6
              obtain ⟨i, mm, go, co, hi, rfl, hmm, hmm72, rfl, hR⟩ := hrel
              by_cases hlt5 : i < m
              · as_aux_lemma =>
                have tt3 : decide ((i : Int) < (m : Int)) = true := by simp; omega
                have tt4 : decide (i < m) = true := by simp; omega
                have wi : IntKind.i64.wrap ((i : Int) + 1) = (i : Int) + 1 := by rw [IntKind.wrap_i64]; omega
                obtain ⟨pb, po, pc, hpe, hp1, hp2, hp3, hp4⟩ := hR.ps i hlt5
                have cr1 := (hR.rCell i hlt5).trans hpe
                have hlo := HLEN.out
                have hm8 := hmm.out
                have HY : Go.RowKit.Hid (∀ k, k < 8 → wr.cell? ⟨pb, po + k, none⟩ = some (.int .u8 ((((out.drop mm).take 8).getD k 0 : Nat) : Int))) := Lib.hid (fun k hk => by rw [piece_get _ _ _ hk, hm8]; exact hp4 k hk)
                have ly8 : ((out.drop mm).take 8).length = 8 := by rw [List.length_take, List.length_drop]; omega
                have hsz := hR.bel.size
                have HR := Lib.hid hR
                have HMM := Lib.hid (show mm + 8 = 8 * (i + 1 + 1) by omega)
                have hm72 : mm + 8 ≤ 72 := by omega
                clear hR hp4 hpe hlo hm8 hmm
                go_wp2_with (at_builtin; refine append_piece rfl (.tmp 132) (.tmp 136) 22 rfl w1.heap.size 5 Tryd.underlying22 info_u8 _ mm _ rfl HR.out.a pb po pc ((out.drop mm).take 8) ly8 rfl HY.out (by omega) hsz ?_; intro g2 cap2 w11 hown2 hgr2 hat2 hlt11)
                have R2 := HR.out.more hown2 hgr2 hat2
                go_roundw
                case rel => exact ⟨i + 1, mm + 8, g2, cap2, by omega, by go_num, HMM, hm72, rfl, R2⟩
                case measure => simp [intOf]; omega
              · as_aux_lemma =>
                obtain rfl : i = m := by omega
                have tt3 : decide ((i : Int) < (i : Int)) = false := by simp
                have tt4 : decide (i < i) = false := by simp
                have hmo : mm = out.length := by have h1 := hmm.out; have h2 := HLEN.out; omega
                have ha := hR.a
                rw [show out.take mm = out by rw [List.take_of_length_le (by omega)]] at ha
                have hroom := owns_room ha
                obtain ⟨A, c, he, hl, hy⟩ := bys_of_owns ha HOB.out
                simp only [Value.slice.injEq, true_and] at he
                obtain ⟨rfl, rfl⟩ := he
                have HF : Go.RowKit.Hid (GivesE out 0 w (.returned (.tuple #[.slice (some ⟨go, 0, none⟩) mm co, .int .i64 0])) wr) := Lib.hid (by
                  rw [hmo] at hroom ⊢
                  exact ⟨_, _, rfl, hroom, (fun h => by cases h), hy, HB1.out.trans (hR.bel.mono HB1.out.size)⟩)
                clear hR ha hroom hl hy hmo hmm
                go_wp2
                go_ret2
                exact HF.out
end Go.Proofs.YtonoidhlbnbhcaaDoor
