/-
  The contract of the reference's Tweak. Condition: the key's bytes lie in its slice. (Written by tools/gen_ref10.py.)
-/
import Derived.Test.YtdjknmnmacppdaaDoorXtTwAll
import Derived.Test.YtdjknmnmacppdaaDoorAesKekRef
import Derived.Test.YtdjknmnmacppdaaDoorHeldList
import Derived.Test.YtdjknmnmacppdaaDoorRefDbl
import Derived.Deep.Cut
namespace Go.Proofs.YtdjknmnmacppdaaDoor
open Go.RowKit Arr Gf Sb Ae Xt
set_option linter.unusedSimpArgs false

/-- The first eight are all. -/
theorem low8 (n : Nat) (hn : n ≤ 4611686018427387904) : upto (fun i => n / 256 ^ i % 256) (fun _ => 0) 16 8 = lowL n := by
  refine list_ext (length_upto ..) (st_low n).1 fun i hi => ?_
  rw [upto_get _ _ _ _ _ hi, lowL, map_get _ _ _ hi]
  by_cases h : i < 8
  · rw [if_pos h]
  · rw [if_neg h]
    have h1 : (256 : Nat) ^ 8 ≤ 256 ^ i := Nat.pow_le_pow_right (by omega) (by omega)
    have h2 : n < 256 ^ 8 := Nat.lt_of_le_of_lt hn (by decide)
    rw [Nat.div_eq_of_lt (by omega)]
/-- The answer's place, the block, what was there. -/
structure TwR (w : World) (x : List Nat) (w' : World) : Prop where
  a : Holds w' w.heap.size .u8 (zs 16)
  b : Holds w' (w.heap.size + 1) .u8 x
  bel : Below w.heap.size w w'
theorem TwR.next {w w' w'' : World} {x : List Nat} (h : TwR w x w') (hx : x.length = 16) (hb : Below w'.heap.size w' w'') : TwR w x w'' :=
  ⟨h.a.below hb (h.a.lt (by rw [length_zs]; omega)), h.b.below hb (h.b.lt (by omega)), h.bel.trans (hb.mono h.bel.size)⟩
theorem TwR.put {w w' : World} {x : List Nat} (h : TwR w x w') (hx : x.length = 16) (y : List Nat) (hy : y.length = 16) : TwR w y (w'.setCells (w.heap.size + 1) 0 (nv .u8 y)) :=
  ⟨h.a.apart _ _ _ (by omega), h.b.put y (by rw [hx, hy]), below_setCells (by omega) _ _ _ h.bel⟩

set_option maxHeartbeats 4000000 in
theorem rtweak_any (ks : List Nat) (A : Option Addr) (n c : Nat) (hl : ks.length = n) (hk : okKey n) (nu b : Nat) (hnu : nu ≤ 4611686018427387904) (hc : n ≤ c) (hb : b ≤ 1000) (w : World) (hy : Bys w w.heap.size A ks) :
    Calls Tryd.prog 14 #[.slice A n c, .int .i64 (nu : Int), .int .i64 (b : Int)] w (GivesA (twk ks nu b) w) := by
  have hk0 : okKey ks.length := by rw [hl]; exact hk
  simp only [okKey] at hk
  obtain ⟨h, hh⟩ : ∃ h, h = n / 2 := ⟨_, rfl⟩
  have e1 : (n : Int) / 2 = (h : Int) := by omega
  have e2 : (n : Int).tdiv 2 = (h : Int) := by rw [Int.tdiv_eq_ediv_of_nonneg (by omega)]; exact e1
  have wh : IntKind.i64.wrap (h : Int) = (h : Int) := by rw [IntKind.wrap_i64]; omega
  have hkb : kb ks = (ks.drop h).take (n - h) := by rw [kb, hl, hh]
  have R2 := Lib.hid (fun W => run_cut_l A n c h (by omega) W)
  have CM : Go.RowKit.Hid (∀ w', Below w.heap.size w w' → Calls Tryd.prog 20 #[.slice (cutA A c h) (n - h) (c - h)] w' (MadeEnc (kb ks) w')) := Lib.hid (fun w' hw =>
    make_enc (kb ks) (len_kb hk0) (cutA A c h) (n - h) (c - h) (by rw [hkb]; simp; omega) w' (by rw [hkb]; exact bys_cut ((hy.below hw).more hw.size) c (by omega) h n (by omega) (by omega)))
  obtain ⟨A1, A2, A3⟩ := two_new w (zs 16) 34
  have R0 := Lib.hid (show TwR w (upto (fun i => nu / 256 ^ i % 256) (fun _ => 0) 16 0) _ from ⟨A1, by rw [upto_noughts]; exact A2, A3⟩)
  have L8 := Lib.hid (low8 nu hnu)
  have sx1 := st_low nu
  have sx2 := st_enc (kk_ok (len_kb hk0)) sx1
  have HTW := Lib.hid (show twk ks nu b = dblN (enc (rr (kb ks)) (kk (kb ks)) (lowL nu)) b from rfl)
  have lx1 := sx1.1
  have lx2 := sx2.1
  clear hk hk0 hl hy hkb A1 A2 A3 hh
  unfold MadeEnc at CM
  generalize twk ks nu b = out at *
  go_enter Tryd.func14, Tryd.ntmps14
  go_upto_region 3 with (first | (with_reducible refine Arr.alloc (t := 34) _ z16 ?_) | fail)
  generalize (w.alloc (.cells (na .u8 (zs 16)) 34)).alloc (.cells (na .u8 (zs 16)) 34) = w0 at *
  go_wp2
  go_loopw [8, 9] (fun nv i wr => ∃ k : Nat, k ≤ 8 ∧ i = .int .i64 (k : Nat) ∧ nv = .int .i64 ((nu / 256 ^ k : Nat) : Int) ∧ TwR w (upto (fun i => nu / 256 ^ i % 256) (fun _ => 0) 16 k) wr) (fun _ i _ => 8 - (intOf i).toNat)
  case atStart => exact ⟨0, by omega, rfl, by simp, R0.out⟩
  case round =>
   clear R0
   obtain ⟨k, hk, rfl, rfl, h1⟩ := hrel
   have H1 := Lib.hid h1; clear h1
   by_cases hlt : k < 8
   · have hlt' : decide ((k : Int) < 8) = true := by simp; omega
     have HS := upto_succ (fun i => nu / 256 ^ i % 256) (fun _ => 0) 16 k (by omega)
     have lu := length_upto (fun i => nu / 256 ^ i % 256) (fun _ => 0) 16 k
     have hle : nu / 256 ^ k ≤ nu := Nat.div_le_self _ _
     have HN := Lib.hid (low_step nu k)
     generalize upto (fun i => nu / 256 ^ i % 256) (fun _ => 0) 16 k = u at *
     generalize nu / 256 ^ k = q at *
     have c2 := H1.out.b.cell k (by omega)
     have f2 := H1.out.b.frozen k (by omega)
     have X2 := H1.out.b.set k (q % 256) (by omega)
     rw [← HS] at X2
     have X1 := H1.out.a.beside ⟨w.heap.size + 1, k, none⟩ (.int .u8 ((q % 256 : Nat) : Int)) (show w.heap.size + 1 ≠ w.heap.size by omega)
     have X3 := H1.out.bel.setCell (p := ⟨w.heap.size + 1, k, none⟩) (show w.heap.size ≤ w.heap.size + 1 by omega) (.int .u8 ((q % 256 : Nat) : Int))
     have X := Lib.hid (TwR.mk X1 X2 X3)
     clear HS H1 X1 X2 X3
     generalize u.getD k 0 = old at *
     obtain ⟨r, hr⟩ : ∃ r, r = q % 256 := ⟨_, rfl⟩
     have q1 : (q : Int).tmod 256 = (r : Int) := by rw [Int.tmod_eq_emod_of_nonneg (by omega)]; omega
     have q2 : (q : Int) % 256 = (r : Int) := by omega
     have q3 : IntKind.u8.wrap (r : Int) = (r : Int) := by rw [IntKind.wrap_u8]; omega
     have q3' : (r : Int) % 256 = (r : Int) := by omega
     have q3'' : IntKind.i64.wrap (r : Int) = (r : Int) := by rw [IntKind.wrap_i64]; omega
     obtain ⟨p, hp⟩ : ∃ p, p = q / 256 := ⟨_, rfl⟩
     have q4 : (q : Int) / 256 = (p : Int) := by omega
     have q5 : (q : Int).tdiv 256 = (p : Int) := by rw [Int.tdiv_eq_ediv_of_nonneg (by omega)]; exact q4
     have q6 : IntKind.i64.wrap (p : Int) = (p : Int) := by rw [IntKind.wrap_i64]; omega
     rw [← hr] at X
     rw [← hp] at HN
     clear hr hp
     go_wp2
     go_roundw
     case rel => exact ⟨k + 1, by omega, by go_num, by rw [← HN.out], X.out⟩
     case measure => simp [intOf]; omega
   · obtain rfl : k = 8 := by omega
     rw [L8.out] at H1
     have ek : ((8 : Nat) : Int) = 8 := rfl
     generalize lowL nu = x1 at *
     generalize hX2 : enc (rr (kb ks)) (kk (kb ks)) x1 = x2 at *
     have HX2 := Lib.hid hX2
     clear hX2
     have RS0 := Lib.hid (show TwR w x1 wr.drew from ⟨H1.out.a.drew, H1.out.b.drew, below_drew H1.out.bel⟩)
     clear H1 L8
     go_upto_region 8 with fail
     refine wp_region_L [(8, (fun w' => TwR w x1 w'))] 9 #[false, false, false, false, false, false, false, false, false] (by kernel_rfl) (by rfl) (by kernel_rfl) (by intro p hp; simp only [List.mem_cons, List.not_mem_nil, or_false] at hp; rcases hp with rfl; exact RS0.out) (fun hHeld => ?_)
     generalize wr.drew = wq at *
     refine wpAnyL_take (i := 0) (v := ?_) rfl (by kernel_rfl) (by kernel_rfl) (by kernel_rfl) (by rfl) (fun _ _ _ h => h) (Or.inl ⟨by rfl, ?_⟩) hHeld (fun hHeld2 => ?_)
     rotate_left
     · (intro wz hSw; go_simp; try with_reducible rfl)
     clear hHeld; have hHeld := hHeld2; clear hHeld2
     try simp only [List.getElem_toArray, List.getElem_cons_zero, List.getElem_cons_succ, Act.put, List.setIfInBounds_toArray, List.set_cons_zero, List.set_cons_succ]
     refine wpAnyL_take (i := 1) (v := ?_) rfl (by kernel_rfl) (by kernel_rfl) (by kernel_rfl) (by rfl) (fun _ _ _ h => h) (Or.inl ⟨by rfl, ?_⟩) hHeld (fun hHeld2 => ?_)
     rotate_left
     · (intro wz hSw; go_simp; try with_reducible rfl)
     clear hHeld; have hHeld := hHeld2; clear hHeld2
     try simp only [List.getElem_toArray, List.getElem_cons_zero, List.getElem_cons_succ, Act.put, List.setIfInBounds_toArray, List.set_cons_zero, List.set_cons_succ]
     refine wpAnyL_take (i := 2) (v := ?_) rfl (by kernel_rfl) (by kernel_rfl) (by kernel_rfl) (by rfl) (fun _ _ _ h => h) (Or.inl ⟨by rfl, ?_⟩) hHeld (fun hHeld2 => ?_)
     rotate_left
     · (intro wz hSw; go_simp; try with_reducible rfl)
     clear hHeld; have hHeld := hHeld2; clear hHeld2
     try simp only [List.getElem_toArray, List.getElem_cons_zero, List.getElem_cons_succ, Act.put, List.setIfInBounds_toArray, List.set_cons_zero, List.set_cons_succ]
     refine wpAnyL_take (i := 3) (v := ?_) rfl (by kernel_rfl) (by kernel_rfl) (by kernel_rfl) (by rfl) (fun _ _ _ h => h) (Or.inl ⟨by rfl, ?_⟩) hHeld (fun hHeld2 => ?_)
     rotate_left
     · (intro wz hSw; go_simp; try with_reducible rfl)
     clear hHeld; have hHeld := hHeld2; clear hHeld2
     try simp only [List.getElem_toArray, List.getElem_cons_zero, List.getElem_cons_succ, Act.put, List.setIfInBounds_toArray, List.set_cons_zero, List.set_cons_succ]
     refine wpAnyL_take (i := 4) (v := ?_) rfl (by kernel_rfl) (by kernel_rfl) (by kernel_rfl) (by rfl) (fun _ _ _ h => h) (Or.inl ⟨by rfl, ?_⟩) hHeld (fun hHeld2 => ?_)
     rotate_left
     · (intro wz hSw; have hr := R2.out wz; go_simp; try with_reducible rfl)
     clear hHeld; have hHeld := hHeld2; clear hHeld2
     try simp only [List.getElem_toArray, List.getElem_cons_zero, List.getElem_cons_succ, Act.put, List.setIfInBounds_toArray, List.set_cons_zero, List.set_cons_succ]
     refine' wpAnyL_take (i := 6) (v := _) rfl (by kernel_rfl) (by kernel_rfl) (by kernel_rfl) (by rfl) (fun _ _ _ h => h) (yieldsIf_load_mid (by rfl) _ _ rfl _ _ rfl (nv .u8 x1) _ (fun _ hs => (hs.get _ (List.Mem.head _) 0 (by kernel_rfl)).b.1) o16.hu rfl (by rw [length_nv, lx1]; exact o16.hi)) hHeld (fun hHeld2 => ?_)
     clear hHeld; have hHeld := hHeld2; clear hHeld2
     try simp only [List.getElem_toArray, List.getElem_cons_zero, List.getElem_cons_succ, Act.put, List.setIfInBounds_toArray, List.set_cons_zero, List.set_cons_succ]
     have hK0 := hHeld.2 _ (List.Mem.head _) (by kernel_rfl)
     refine wpAnyL_one (i := 5) (by kernel_rfl) rfl rfl hHeld (fun K hK => ?_)
     go_simp
     refine (CM.out _ hK0.bel).mono ?_
     rintro e w5 ⟨gk, rfl, hb5, hE⟩
     have hK5 := hK0.next lx1 hb5
     have ce := hE x1 sx1 w5 (Below.refl _ _)
     rw [HX2.out] at ce
     have CE := Lib.hid ce
     clear ce
     refine hK.out _ _ (by intro p hp hl; simp only [List.mem_cons, List.not_mem_nil, or_false] at hp; rcases hp with rfl; exact hK5) (fun hHeld2 => ?_)
     clear hHeld hK K hK0 hb5 hE; have hHeld := hHeld2; clear hHeld2
     try simp only [List.getElem_toArray, List.getElem_cons_zero, List.getElem_cons_succ, Act.put, List.setIfInBounds_toArray, List.set_cons_zero, List.set_cons_succ]
     refine wpAnyL_one (i := 7) (by kernel_rfl) rfl rfl hHeld (fun K hK => ?_)
     go_simp
     refine CE.out.mono ?_
     rintro e w6 ⟨rfl, hb6⟩
     have hK6 := hK5.next lx1 hb6
     refine hK.out _ _ (by intro p hp hl; simp only [List.mem_cons, List.not_mem_nil, or_false] at hp; rcases hp with rfl; exact hK6) (fun hHeld2 => ?_)
     clear hHeld hK K hK5 hb6; have hHeld := hHeld2; clear hHeld2
     try simp only [List.getElem_toArray, List.getElem_cons_zero, List.getElem_cons_succ, Act.put, List.setIfInBounds_toArray, List.set_cons_zero, List.set_cons_succ]
     refine wpAnyL_one (i := 8) (by kernel_rfl) rfl rfl hHeld (fun K hK => ?_)
     refine op_store o16 (w.heap.size + 1) x1 x2 lx1 hK6.b lx2 (x := .tmp 7) (y := .tmp 30) rfl rfl rfl ?_
     have hK8 := hK6.put lx1 x2 lx2
     refine hK.out _ _ (by intro p hp hl; simp only [List.mem_cons, List.not_mem_nil, or_false] at hp; rcases hp with rfl <;> exact Bool.noConfusion (hl.symm.trans (show _ = true by kernel_rfl))) (fun hHeld2 => ?_)
     clear hHeld hK K hK6 hHeld2
     try simp only [List.getElem_toArray, List.getElem_cons_zero, List.getElem_cons_succ, Act.put]
     refine wpAnyL_done (by kernel_rfl) ?_ _
     have K8 := Lib.hid hK8
     clear hK8
     generalize w6.setCells (w.heap.size + 1) 0 (nv .u8 x2) = w8 at *
     clear e1 e2 wh
     go_wp2
     go_loopw [10] (fun i wt => ∃ k : Nat, k ≤ b ∧ i = .int .i64 (k : Nat) ∧ TwR w (dblN x2 k) wt) (fun i _ => b - (intOf i).toNat)
     case atStart => exact ⟨0, by omega, rfl, K8.out⟩
     case round =>
       clear K8
       obtain ⟨k, hk, rfl, h1⟩ := hrel
       have H1 := Lib.hid h1; clear h1
       have st := st_dblN sx2 k
       by_cases hlt : k < b
       · have hlt' : decide ((k : Int) < (b : Int)) = true := by simp; omega
         have HD := Lib.hid (show dblN x2 (k + 1) = dbl (dblN x2 k) from rfl)
         have CD : Go.RowKit.Hid (∀ w', Calls Tryd.prog 22 #[.agg (na .u8 (dblN x2 k))] w' (GivesA (dbl (dblN x2 k)) w')) := Lib.hid (fun w' => rdouble_any _ st.1 st.2 w')
         have lz := (st_dbl st).1
         have lt' := st.1
         generalize dbl (dblN x2 k) = z at *
         generalize dblN x2 k = tk at *
         go_wp2_with (first | (with_reducible refine Arr.load o16 (w.heap.size + 1) tk lt' H1.out.b rfl ?_) | fail)
         refine (CD.out _).mono ?_
         rintro e w9 ⟨rfl, hb9⟩
         have H2 := Lib.hid (H1.out.next lt' hb9)
         have H3 := Lib.hid (H2.out.put lt' z lz)
         clear H1 hb9 CD
         go_wp2_with (first | (with_reducible refine Arr.store o16 (w.heap.size + 1) tk z lt' H2.out.b lz rfl rfl ?_) | fail)
         go_roundw
         case rel => exact ⟨k + 1, by omega, by go_num, by rw [HD.out]; exact H3.out⟩
         case measure => simp [intOf]; omega
       · obtain rfl : k = b := by omega
         have hlt' : decide ((k : Int) < (k : Int)) = false := by simp
         have lt' := st.1
         rw [← HTW.out] at H1 lt'
         clear st HTW
         go_wp2_with (first | (with_reducible refine Arr.load o16 (w.heap.size + 1) out lt' H1.out.b rfl ?_) | (with_reducible refine Arr.store o16 w.heap.size (zs 16) out (length_zs _) H1.out.a lt' rfl rfl ?_) | fail)
         exact bodyPost_ret (v := .agg (na .u8 out)) (results_arr o16 rfl _ _ w.heap.size out lt' (H1.out.a.put _ (by rw [lt', length_zs])) rfl) rfl ⟨rfl, below_setCells (Nat.le_refl _) _ _ _ H1.out.bel⟩
end Go.Proofs.YtdjknmnmacppdaaDoor
