/-
  The contract of the reference's Encrypt of sectors. Conditions: the slices hold their bytes.
-/
import Derived.Test.YtdjknmnmacppdaaDoorXtRefTweak
import Derived.Test.YtdjknmnmacppdaaDoorAppLie
import Derived.Test.YtdjknmnmacppdaaDoorOnly
import Derived.Test.YtdjknmnmacppdaaDoorQuietAll
import Derived.Deep.QuietTactic
import Derived.BigQuiet
namespace Go.Proofs.YtdjknmnmacppdaaDoor
open Go.RowKit Arr Gf Sb Ae Xt
set_option linter.unusedSimpArgs false

theorem grown_sets (w : World) (g o : Nat) (vs : List Value) : w.grownBy (w.setCells g o vs) (some g) := by
  have h := (Only.refl g w).setCells vs o
  exact ⟨h.os, h.tape, h.output, h.size, fun k hk hne => h.block k hk (fun e => hne (by rw [e]))⟩
/-- What stands while the reference enciphers a sector: the row that it makes, the tweak, what was there. -/
structure Ro (w2 : World) (tk : List Nat) (v : Value) (cnt : Nat) (row : List Nat) (w' : World) : Prop where
  own : w'.ownsRow w2.heap.size 5 1 v cnt (vals .u8 row)
  twe : Holds w' w2.heap.size .u8 tk
  lt : tk.length = 16
  ne : v.ownBlock ≠ some w2.heap.size
  bel : Below w2.heap.size w2 w'
/-- .. and the block. -/
structure Rx (w2 : World) (gx : Nat) (tk x : List Nat) (v : Value) (cnt : Nat) (row : List Nat) (w' : World) : Prop where
  ro : Ro w2 tk v cnt row w'
  xx : Holds w' gx .u8 x
  lx : x.length = 16
  nx : v.ownBlock ≠ some gx
  gt : w2.heap.size < gx
section
variable {w2 w' w'' : World} {gx cnt : Nat} {tk x row : List Nat} {v : Value}
theorem Ro.next (h : Ro w2 tk v cnt row w') (hb : Below w'.heap.size w' w'') : Ro w2 tk v cnt row w'' :=
  ⟨own_below h.own hb, h.twe.below hb (h.twe.lt (by have := h.lt; omega)), h.lt, h.ne, h.bel.trans (hb.mono h.bel.size)⟩
theorem Rx.next (h : Rx w2 gx tk x v cnt row w') (hb : Below w'.heap.size w' w'') : Rx w2 gx tk x v cnt row w'' :=
  ⟨h.ro.next hb, h.xx.below hb (h.xx.lt (by have := h.lx; omega)), h.lx, h.nx, h.gt⟩
theorem Ro.setTw (h : Ro w2 tk v cnt row w') (m : List Nat) (hm : m.length = 16) : Ro w2 m v cnt row (w'.setCells w2.heap.size 0 (nv .u8 m)) :=
  ⟨h.own.kept (grown_sets ..) (.inr h.ne), h.twe.put m (by rw [hm, h.lt]), hm, h.ne, below_setCells (Nat.le_refl _) _ _ _ h.bel⟩
theorem Rx.of (h : Ro w2 tk v cnt row w') (hb : Below w'.heap.size w' w'') (hx : Holds w'' w'.heap.size .u8 x) (lx : x.length = 16) : Rx w2 w'.heap.size tk x v cnt row w'' :=
  ⟨h.next hb, hx, lx, fun e => by have := (h.own.lt _ e).2; omega, h.twe.lt (by have := h.lt; omega)⟩
theorem Rx.setX (h : Rx w2 gx tk x v cnt row w') (m : List Nat) (hm : m.length = 16) : Rx w2 gx tk m v cnt row (w'.setCells gx 0 (nv .u8 m)) := by
  have hg := h.gt
  exact ⟨⟨h.ro.own.kept (grown_sets ..) (.inr h.nx), h.ro.twe.apart _ _ _ (by omega), h.ro.lt, h.ro.ne, below_setCells (by omega) _ _ _ h.ro.bel⟩, h.xx.put m (by rw [hm, h.lx]), hm, h.nx, hg⟩
theorem Rx.more (h : Rx w2 gx tk x v cnt row w') {g cap : Nat} {c : Nat} (hown : w''.ownsRow w2.heap.size 5 1 (.slice (some ⟨g, 0, none⟩) (cnt + 1) cap) (cnt + 1) (vals .u8 row ++ [.int .u8 (c : Int)])) (hgr : w'.grownBy w'' v.ownBlock) (hat : v.ownBlock = some g ∨ w'.heap.size < g) :
    Rx w2 gx tk x (.slice (some ⟨g, 0, none⟩) (cnt + 1) cap) (cnt + 1) (row ++ [c]) w'' := by
  have hl := h.ro.lt
  have hx := h.lx
  have g1 := h.ro.twe.lt (by omega)
  have g2 := h.xx.lt (by omega)
  refine ⟨⟨by rw [vals_snoc]; exact hown, h.ro.twe.grown (by omega) hgr h.ro.ne, hl, fun e => ?_, h.ro.bel.grown hgr h.ro.bel.size (fun k hk => (h.ro.own.lt k hk).1)⟩, h.xx.grown (by omega) hgr h.nx, hx, fun e => ?_, h.gt⟩
  · have e' : g = w2.heap.size := Option.some.inj e
    rcases hat with h1 | h1
    · exact h.ro.ne (by rw [h1, e'])
    · omega
  · have e' : g = gx := Option.some.inj e
    rcases hat with h1 | h1
    · exact h.nx (by rw [h1, e'])
    · omega
theorem Rx.drewN (h : Rx w2 gx tk x v cnt row w') (n : Nat) : Rx w2 gx tk x v cnt row (w'.drewN n) := h.next (below_drewN_self _ _)
end
theorem take_up (l : List Nat) (i : Nat) (hi : i < l.length) : l.take (i + 1) = l.take i ++ [l.getD i 0] := by
  rw [List.take_add_one, List.getElem?_eq_getElem hi, List.getD_eq_getElem?_getD, List.getElem?_eq_getElem hi]; rfl

/-- What a call leaves that makes a slice of the bytes l. -/
def GivesR (l : List Nat) (n : Nat) (w : World) (e : Ending) (w' : World) : Prop := ∃ A c, e = .returned (.slice A n c) ∧ l.length = n ∧ Bys w' w'.heap.size A l ∧ Below w.heap.size w w'

set_option maxHeartbeats 8000000 in
set_option maxRecDepth 10000 in
theorem rencrypt_any (ks b : List Nat) (A A1 : Option Addr) (n c n1 c1 m : Nat) (hl : ks.length = n) (hk : okKey n) (hc : n ≤ c) (nu : Nat) (hnu : nu ≤ 4611686018427387904) (hl1 : b.length = n1) (hm : n1 = 16 * m) (hm0 : 0 < m) (hm1 : m ≤ 256) (w : World) (hy : Bys w w.heap.size A ks) (hb : Bys w w.heap.size A1 b) :
    Calls Tryd.prog 12 #[.slice A n c, .int .i64 (nu : Int), .slice A1 n1 c1] w (GivesR (secL (enc (rr (ka ks)) (kk (ka ks))) (twk ks nu 0) b) n1 w) := by
  have hk0 : okKey ks.length := by rw [hl]; exact hk
  obtain ⟨bb, off, rfl, hbw, hbc⟩ := hb.2 (by omega)
  obtain ⟨h, hh⟩ : ∃ h, h = n / 2 := ⟨_, rfl⟩
  have hn64 : n ≤ 64 := by simp only [okKey] at hk; omega
  have e1 : (n : Int) / 2 = (h : Int) := by omega
  have e2 : (n : Int).tdiv 2 = (h : Int) := by rw [Int.tdiv_eq_ediv_of_nonneg (by omega)]; exact e1
  have wh : IntKind.i64.wrap (h : Int) = (h : Int) := by rw [IntKind.wrap_i64]; omega
  have hhc : h ≤ c := by omega
  have hka : ka ks = ks.take h := by rw [ka, hl, hh]
  have CM := Lib.hid (make_enc (ka ks) (len_ka hk0) A h c (by rw [hka]; simp; omega) w (by rw [hka]; exact bys_take hy h))
  have CT := Lib.hid (fun w' (hw : Below w.heap.size w w') => rtweak_any ks A n c hl hk nu 0 hnu hc (by omega) w' ((hy.below hw).more hw.size))
  have hsec : secL (enc (rr (ka ks)) (kk (ka ks))) (twk ks nu 0) b = outN (enc (rr (ka ks)) (kk (ka ks))) (twk ks nu 0) b m := by rw [secL, hl1, hm, show 16 * m / 16 = m by omega]
  rw [hsec]
  have st0 := st_twk hk0 nu 0
  have HF : Step (enc (rr (ka ks)) (kk (ka ks))) := fun x hx => st_enc (kk_ok (len_ka hk0)) hx
  unfold MadeEnc at CM
  generalize enc (rr (ka ks)) (kk (ka ks)) = f at *
  generalize twk ks nu 0 = t at *
  have HST := Lib.hid st0
  have HFs := Lib.hid HF
  have HSP := Lib.hid (fun k (hk : k < m) => st_pc (hl1.trans hm) hk hb.1)
  have HBC := Lib.hid hbc
  have HPG := Lib.hid (fun k i (hi : i < 16) => pc_get b k i hi)
  have HLT := Lib.hid (out_lt HF st0 (hl1.trans hm) hb.1 m (Nat.le_refl _))
  have HLO := Lib.hid (fun k => len_outN (f := f) t b k)
  have lt0 := st0.1
  have HL := Lib.hid hl1
  have HM := Lib.hid hm
  have hm4 : n1 ≤ 4096 := by omega
  clear hk hk0 hl hy hka hh st0 HF hsec hb hbc hl1 hm hnu hc
  go_enter Tryd.func12, Tryd.ntmps12
  go_wp2_with fail
  refine CM.out.mono ?_
  rintro e w1 ⟨gk, rfl, hb1, hE⟩
  have B1 := Lib.hid hb1
  have CE := Lib.hid hE
  have CT1 := Lib.hid (CT.out w1 hb1)
  clear hb1 hE CM CT e1 e2 wh
  go_wp2_with fail
  refine CT1.out.mono ?_
  rintro e w2 ⟨rfl, hb2⟩
  have B2 := Lib.hid (B1.out.trans (hb2.mono B1.out.size))
  have B12 := Lib.hid hb2
  have D1 := Lib.hid (Holds.new w2 34 .u8 (zs 16))
  have R0 := Lib.hid (show Ro w2 (dblN t 0) (.slice none 0 0) (16 * 0) (outN f t b 0) ((w2.alloc (.cells (na .u8 (zs 16)) 34)).setCells w2.heap.size 0 (nv .u8 t)) from
    ⟨World.ownsRow_nil _ _ _ _, D1.out.put t (by rw [lt0, length_zs]), lt0, (by simp [Value.ownBlock]), below_setCells (Nat.le_refl _) _ _ _ (below_alloc _ _)⟩)
  clear hb2 CT1 B1
  go_upto_region 4 with (first | (with_reducible refine Arr.alloc (t := 34) _ z16 ?_) | (with_reducible refine Arr.store o16 w2.heap.size (zs 16) t (length_zs _) D1.out lt0 rfl rfl ?_) | fail)
  generalize (w2.alloc (.cells (na .u8 (zs 16)) 34)).setCells w2.heap.size 0 (nv .u8 t) = w3 at *
  clear D1
  go_wp2
  go_loopw [7, 10] (fun v i wr => ∃ k a : Nat, k ≤ m ∧ Go.RowKit.Hid (a = 16 * k) ∧ i = .int .i64 (a : Nat) ∧ Ro w2 (dblN t k) v a (outN f t b k) wr) (fun _ i _ => n1 - (intOf i).toNat)
  case atStart => exact ⟨0, 0, by omega, Lib.hid rfl, rfl, R0.out⟩
  case round =>
    clear R0
    obtain ⟨k, a, hk, HA, rfl, hR⟩ := hrel
    have HR := Lib.hid hR
    clear hR
    generalize wr = wo at *
    by_cases hlt : k < m
    · as_aux_lemma =>
      have hna : a + 16 ≤ n1 := by have := HM.out; have := HA.out; omega
      have ta : decide ((a : Int) < (n1 : Int)) = true := by simp; omega
      have ta' : decide (a < n1) = true := by simp; omega
      have hx := HSP.out k hlt
      have htk := st_dblN HST.out k
      have s1 := st_xor hx htk
      have s2 := HFs.out _ s1
      have s3 := st_xor s2 htk
      have HD := Lib.hid (show dblN t (k + 1) = dbl (dblN t k) from rfl)
      have HO := Lib.hid (show outN f t b (k + 1) = outN f t b k ++ xorL (f (xorL (pc b k) (dblN t k))) (dblN t k) from rfl)
      have HPK := Lib.hid (fun i (hi : i < 16) => by have := HPG.out k i hi; rw [← HA.out] at this; exact this)
      have CX2 := Lib.hid (fun w' (hw : Below w1.heap.size w1 w') => CE.out _ s1 w' hw)
      have CX4 : Go.RowKit.Hid (∀ w', Calls Tryd.prog 22 #[.agg (na .u8 (dblN t k))] w' (GivesA (dbl (dblN t k)) w')) := Lib.hid (fun w' => rdouble_any _ htk.1 htk.2 w')
      have lz := (st_dbl htk).1
      have hXb := Lib.hid hx.2
      have hTb := Lib.hid htk.2
      have hYb := Lib.hid s2.2
      have lt' := htk.1
      have lx1 := s1.1
      have lx2 := s2.1
      have HX1 := Lib.hid (show upto (fun i => (pc b k).getD i 0 ^^^ (dblN t k).getD i 0) (fun _ => 0) 16 16 = xorL (pc b k) (dblN t k) from upto_all ..)
      have HY := Lib.hid (fun i (hi : i < 16) => map_get (fun i => (f (xorL (pc b k) (dblN t k))).getD i 0 ^^^ (dblN t k).getD i 0) 16 i hi)
      have ly := s3.1
      have HYe := Lib.hid (show xorL (f (xorL (pc b k) (dblN t k))) (dblN t k) = (List.range 16).map fun i => (f (xorL (pc b k) (dblN t k))).getD i 0 ^^^ (dblN t k).getD i 0 from rfl)
      rw [← HYe.out] at HY
      clear HYe hx htk s1 s2 s3
      generalize dbl (dblN t k) = z at *
      generalize xorL (f (xorL (pc b k) (dblN t k))) (dblN t k) = y at *
      generalize f (xorL (pc b k) (dblN t k)) = x2 at *
      generalize xorL (pc b k) (dblN t k) = x1 at *
      generalize pc b k = x at *
      generalize dblN t k = tk at *
      have hWB := Lib.hid (fun W (hW : Below w.heap.size w W) i (hi : i < b.length) => (hW.cell (p := ⟨bb, off + i, none⟩) hbw).trans (HBC.out i hi))
      have K0 := Lib.hid (Holds.new wo 34 .u8 (zs 16))
      have BA := Lib.hid (below_alloc wo (.cells (na .u8 (zs 16)) 34))
      go_upto_region 8 with (first | (with_reducible refine Arr.alloc (t := 34) _ z16 ?_) | fail)
      generalize wo.alloc (.cells (na .u8 (zs 16)) 34) = wa0 at *
      go_wp2
      go_loopw [12] (fun i wx => ∃ i0 : Nat, i0 ≤ 16 ∧ i = .int .i64 (i0 : Nat) ∧ Holds wx wo.heap.size .u8 (upto (fun i => x.getD i 0 ^^^ tk.getD i 0) (fun _ => 0) 16 i0) ∧ Below wo.heap.size wo wx) (fun i _ => 16 - (intOf i).toNat)
      case atStart => exact ⟨0, by omega, rfl, by rw [upto_noughts]; exact K0.out, BA.out⟩
      case round =>
        clear K0 BA
        obtain ⟨i, hi, rfl, h1, h2⟩ := hrel
        generalize wr = wx at *
        by_cases hit : i < 16
        · as_aux_lemma =>
          have ti : decide ((i : Int) < 16) = true := by simp; omega
          have ii : (i : Int) < 16 := by omega
          obtain ⟨j, hj⟩ : ∃ j, j = a + i := ⟨_, rfl⟩
          have q1 : (a : Int) + (i : Int) = (j : Int) := by omega
          have q2 : IntKind.i64.wrap (j : Int) = (j : Int) := wrap_nat j (by omega)
          have jn : (j : Int) < (n1 : Int) := by omega
          have jn' : j < n1 := by omega
          have hx := u8_xor_nat _ _ (hXb.out i) (hTb.out i)
          have HS := upto_succ (fun i => x.getD i 0 ^^^ tk.getD i 0) (fun _ => 0) 16 i hit
          have lu := length_upto (fun i => x.getD i 0 ^^^ tk.getD i 0) (fun _ => 0) 16 i
          have HS := Lib.hid HS
          generalize upto (fun i => x.getD i 0 ^^^ tk.getD i 0) (fun _ => 0) 16 i = u at *
          have hWj := Lib.hid (fun W (hW : Below w.heap.size w W) => show W.cell? ⟨bb, off + j, none⟩ = some (.int .u8 ((x.getD i 0 : Nat) : Int)) by rw [HPK.out i hit, ← hj]; exact hWB.out W hW j (by have := HL.out; omega))
          have HR' := HR
          generalize hcc : x.getD i 0 ^^^ tk.getD i 0 = cc at *
          have hx0 : (0 : Int) ≤ (cc : Int) := by omega
          clear hcc hj
          go_wp2_with fail
          refine region_tail 11 (by kernel_rfl) (by kernel_rfl) ?_
          intro wd hwd
          have G1 : Holds wd wo.heap.size .u8 u := by rw [hwd]; exact h1.drew
          have G2 : Below wo.heap.size wo wd := by rw [hwd]; exact below_drew h2
          have GR := HR.out.next G2
          have c1 := hWj.out wd (B2.out.trans (GR.bel.mono B2.out.size))
          have c2 := GR.twe.cell i (by omega)
          have c3 := G1.cell i (by omega)
          have f3 := G1.frozen i (by omega)
          have X1 := G1.set i cc (by omega)
          rw [← HS.out] at X1
          have X2 := G2.setCell (p := ⟨wo.heap.size, i, none⟩) (Nat.le_refl _) (.int .u8 (cc : Int))
          have X1 := Lib.hid X1
          have X2 := Lib.hid X2
          clear hwd G1 G2 GR h1 h2 HS HR HR'
          generalize u.getD i 0 = uo at *
          generalize x.getD i 0 = xc at *
          generalize tk.getD i 0 = tc at *
          simp only [List.take_succ_cons, List.take_zero, List.drop_succ_cons, List.drop_zero]
          repeat still_step
          refine wpStill_nil ?_
          go_wp2
          go_roundw
          case rel => exact ⟨i + 1, by omega, by go_num, X1.out, X2.out⟩
          case measure => simp [intOf]; omega
        · as_aux_lemma =>
          have ei : (i : Int) = 16 := by omega
          rw [ei]
          obtain rfl : i = 16 := by omega
          clear ei
          rw [HX1.out] at h1
          have RX := Lib.hid (Rx.of HR.out h2 h1 lx1)
          clear h1 h2 HR HX1 HPK hWB hXb
          generalize wo.heap.size = gx at *
          generalize outN f t b k = row at *
          go_wp2_with (first | (with_reducible refine Arr.load o16 gx x1 lx1 RX.out.xx rfl ?_) | fail)
          refine (CX2.out _ (B12.out.trans (RX.out.ro.bel.mono B12.out.size))).mono ?_
          rintro e w5 ⟨rfl, hb5⟩
          have R5 := Lib.hid (RX.out.next hb5)
          have R6 := Lib.hid (R5.out.setX x2 lx2)
          clear RX hb5 CX2
          go_upto_region 13 with (first | (with_reducible refine Arr.store o16 gx x1 x2 lx1 R5.out.xx lx2 rfl rfl ?_) | fail)
          generalize w5.setCells gx 0 (nv .u8 x2) = w6 at *
          clear R5
          go_wp2
          go_loopw [7, 13] (fun v i wy => ∃ i0 p : Nat, i0 ≤ 16 ∧ Go.RowKit.Hid (p = a + i0) ∧ i = .int .i64 (i0 : Nat) ∧ Rx w2 gx tk x2 v p (row ++ y.take i0) wy) (fun _ i _ => 16 - (intOf i).toNat)
          case atStart => exact ⟨0, a, by omega, Lib.hid rfl, rfl, by rw [List.take_zero, List.append_nil]; exact R6.out⟩
          case round =>
            clear R6
            obtain ⟨i, p, hi, HP, rfl, h3⟩ := hrel
            by_cases hit : i < 16
            · as_aux_lemma =>
              have ti : decide ((i : Int) < 16) = true := by simp; omega
              have ii : (i : Int) < 16 := by omega
              have hx := u8_xor_nat _ _ (hYb.out i) (hTb.out i)
              have hyi := HY.out i hit
              have hpn : p ≤ 4294967296 := by have := HP.out; omega
              rw [← hyi] at hx
              have HTK := Lib.hid (take_up y i (by omega))
              have c1 := h3.xx.cell i (by omega)
              have c2 := h3.ro.twe.cell i (by omega)
              clear hyi HY
              generalize y.getD i 0 = yc at *
              have hx0 : (0 : Int) ≤ (yc : Int) := by omega
              generalize x2.getD i 0 = xc at *
              generalize tk.getD i 0 = tc at *
              have H3 := Lib.hid h3
              clear h3
              go_wp2_with fail
              refine region_move_quiet_tail 8 (by kernel_rfl) (by kernel_rfl) (.tmp 7) u7 rfl rfl rfl (fun _ _ _ _ h => h) ?_
              simp only [List.take_succ_cons, List.take_zero, List.drop_succ_cons, List.drop_zero, Nat.add_one_sub_one, Act.put, List.setIfInBounds_toArray, List.set_cons_zero, List.set_cons_succ]
              repeat (go_big_quiet_step (fail))
              refine wpQuiet_nil ?_
              intro wd hwd
              have G1 : Rx w2 gx tk x2 u7 p (row ++ y.take i) wd := by obtain ⟨n, rfl⟩ := hwd; exact H3.out.drewN n
              have GH := Lib.hid G1
              have hszd := G1.ro.bel.size
              clear hwd G1 H3 c1 c2 hx
              go_wp2_with (at_builtin; refine append_lie rfl (.tmp 52) (.tmp 60) 22 rfl w2.heap.size 5 (.int .u8 0) 1 Tryd.underlying22 info_u8 rfl u7 p _ (.int .u8 (yc : Int)) rfl GH.out.ro.own rfl rfl hpn (by omega) hszd ?_; intro g2 cap2 w11 hown2 hgr2 hat2 hlt11)
              have H4 := GH.out.more hown2 hgr2 hat2
              rw [List.append_assoc, ← HTK.out] at H4
              have H4 := Lib.hid H4
              clear hown2 hgr2 hat2 hlt11 GH
              go_wp2
              go_roundw
              case rel => exact ⟨i + 1, p + 1, by omega, Lib.hid (by have := HP.out; omega), by go_num, H4.out⟩
              case measure => simp [intOf]; omega
            · as_aux_lemma =>
              have ei : (i : Int) = 16 := by omega
              rw [ei]
              obtain rfl : i = 16 := by omega
              clear ei
              rw [List.take_of_length_le (show y.length ≤ 16 by omega)] at h3
              have H3 := Lib.hid h3.ro
              clear h3 HY
              go_wp2_with (first | (with_reducible refine Arr.load o16 w2.heap.size tk lt' H3.out.twe rfl ?_) | fail)
              refine (CX4.out _).mono ?_
              rintro e w8 ⟨rfl, hb8⟩
              have R8 := Lib.hid (H3.out.next hb8)
              have R9 := Lib.hid (R8.out.setTw z lz)
              clear H3 hb8 CX4
              have wa : IntKind.i64.wrap ((a : Int) + 16) = (a : Int) + 16 := by rw [IntKind.wrap_i64]; omega
              go_wp2_with (first | (with_reducible refine Arr.store o16 w2.heap.size tk z lt' R8.out.twe lz rfl rfl ?_) | fail)
              go_roundw
              case rel => exact ⟨k + 1, a + 16, by omega, Lib.hid (by have := HA.out; omega), by go_num, by rw [HD.out, HO.out, ← HP.out]; exact R9.out⟩
              case measure => simp [intOf]; omega
    · as_aux_lemma =>
      obtain rfl : k = m := by omega
      have hna : a = n1 := by have := HM.out; have := HA.out; omega
      have ta : decide ((a : Int) < (n1 : Int)) = false := by simp; omega
      have ta' : decide (a < n1) = false := by simp; omega
      obtain ⟨Ao, co, hv, hlo, hyo⟩ := bys_of_owns HR.out.own HLT.out
      have HG := Lib.hid (show GivesR (outN f t b k) n1 w (.returned u7) wo from ⟨Ao, co, by rw [hv, hna], by rw [hlo, hna], hyo, B2.out.trans (HR.out.bel.mono B2.out.size)⟩)
      clear hv hlo hyo
      go_wp2
      go_ret
      exact HG.out
end Go.Proofs.YtdjknmnmacppdaaDoor
