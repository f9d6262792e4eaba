/-
  The walk of the law AesBack: for every key and all blocks it answers true and leaves what was there. Condition: the table of widths stands in its variable. (Written by tools/gen_backwalk4.py.)
-/
import Derived.Test.YtkpifmnojmenaaaDoorAesTwo
namespace Go.Proofs.YtkpifmnojmenaaaDoor
open Go.RowKit Arr Gf Sb Ae

/-- What a call of New leaves, the key being one, whichever. -/
def MadeAny (w : World) (e : Ending) (w' : World) : Prop :=
  ∃ g r K, e = .returned (.tuple #[.pointer (some ⟨g, 0, none⟩), .int .i64 0]) ∧ Ciph w' g r K ∧ 1 ≤ r ∧ r ≤ 14 ∧ Keys r K ∧ w.heap.size ≤ g ∧ Below w.heap.size w w'
theorem new_some (bs : List Nat) (h : bs.length = 16 ∨ bs.length = 32) (A : Option Addr) (c : Nat) (hc : bs.length ≤ c) (w : World) (hb : Bys w w.heap.size A bs) (ht : Tab w 0) :
    Calls Tryd.prog 7 #[.slice A bs.length c] w (MadeAny w) := by
  rcases h with h | h
  · rw [h]
    refine (new4 bs h A c (by omega) w hb ht).mono ?_
    rintro e w' ⟨g, rfl, hC, hg, hB⟩
    exact ⟨g, 10, _, rfl, hC, by omega, by omega, keys_ok _ _ _ (by omega), hg, hB⟩
  · rw [h]
    refine (new8 bs h A c (by omega) w hb ht).mono ?_
    rintro e w' ⟨g, rfl, hC, hg, hB⟩
    exact ⟨g, 14, _, rfl, hC, by omega, by omega, keys_ok _ _ _ (by omega), hg, hB⟩

/-- What is held in the law's last statement. -/
structure S7 (w : World) (g r : Nat) (K a b : List Nat) (gx gy : Nat) (x y : List Nat) (w' : World) : Prop where
  bs : Bs w w' g r K a b
  hx : Holds w' gx .u8 x
  hy : Holds w' gy .u8 y
theorem S7.after {w w' w'' : World} {g r : Nat} {K a b : List Nat} {gx gy : Nat} {x y : List Nat} (s : S7 w g r K a b gx gy x y w') (ha : a.length = 16) (hb : b.length = 16) (lx : x.length = 16) (ly : y.length = 16) (h : Below w'.heap.size w' w'') : S7 w g r K a b gx gy x y w'' :=
  ⟨s.bs.after ha hb h, s.hx.below h (s.hx.lt (by omega)), s.hy.below h (s.hy.lt (by omega))⟩

set_option maxHeartbeats 8000000 in
set_option maxRecDepth 10000 in
theorem aesBack_walk (bs : List Nat) (A : Option Addr) (cap : Nat) (a b : List Nat) (w : World) (ht : Tab w 0) (hb : Bys w w.heap.size A bs) (hc : bs.length ≤ cap) (_hn : A = none → cap = 0) (la : a.length = 16) (ba : ∀ i, a.getD i 0 < 256) (lb : b.length = 16) (bb : ∀ i, b.getD i 0 < 256) :
    Calls Tryd.prog 5 #[.slice A bs.length cap, .agg (na .u8 a), .agg (na .u8 b)] w (Ret true w) := by
  have s1 : (w.alloc (.cells (na .u8 a) 32)).heap.size = w.heap.size + 1 := World.size_alloc ..
  have A1 := (Holds.new w 32 .u8 a).alloc (.cells (na .u8 b) 32)
  have A2 := Holds.new (w.alloc (.cells (na .u8 a) 32)) 32 .u8 b
  have A3 := ((Below.refl w.heap.size w).alloc (Nat.le_refl _) (.cells (na .u8 a) 32)).alloc (by rw [s1]; omega) (.cells (na .u8 b) 32)
  rw [s1] at A2
  have B1 := Lib.hid A1
  have B2 := Lib.hid A2
  have B3 := Lib.hid A3
  have HB := Lib.hid hb
  have HT := Lib.hid ht
  have htw := ht.lt
  have sa : St a := ⟨la, ba⟩
  have sb : St b := ⟨lb, bb⟩
  have SA := Lib.hid sa
  have SB := Lib.hid sb
  clear A1 A2 A3 hb ht s1 ba bb sa sb
  generalize hn : bs.length = n at *
  have HN := Lib.hid hn
  clear hn
  go_enter Tryd.func5, Tryd.ntmps5
  go_wp2_with fail
  generalize (w.alloc (.cells (na .u8 a) 32)).alloc (.cells (na .u8 b) 32) = w0 at *
  refine (awake_any w0 (HT.out.below B3.out htw)).mono ?_
  rintro e w1 ⟨rfl, hbel⟩
  have D1 := Lib.hid (B1.out.below hbel (B1.out.lt (by omega)))
  have D2 := Lib.hid (B2.out.below hbel (B2.out.lt (by omega)))
  have D3 := Lib.hid (B3.out.trans (hbel.mono B3.out.size))
  clear hbel B1 B2 B3
  by_cases h16 : n = 16 ∨ n = 32
  · have CN := new_some bs (by rw [HN.out]; exact h16) A cap (by rw [HN.out]; exact hc) w1 ((HB.out.below D3.out).more D3.out.size) (HT.out.below D3.out htw)
    rw [HN.out] at CN
    have CN := Lib.hid CN
    go_wp2_with fail
    refine CN.out.mono ?_
    rintro e w2 ⟨g, r, K, rfl, hC, hr1, hr2, hK, hg, hbel⟩
    have hB2 : w.heap.size + 1 < w1.heap.size := D2.out.lt (by omega)
    have SS := Lib.hid (show Bs w w2 g r K a b from ⟨hC, D1.out.below hbel (D1.out.lt (by omega)), D2.out.below hbel hB2, D3.out.trans (hbel.mono D3.out.size)⟩)
    have hsz : w1.heap.size ≤ w2.heap.size := hbel.size
    clear D1 D2 D3 hC hbel CN
    have CX := Lib.hid (fun w' h => encrypt_any g r hr1 hr2 K a hK SA.out w' h)
    have CY := Lib.hid (fun w' h => encrypt_any g r hr1 hr2 K b hK SB.out w' h)
    have sx := st_enc hK SA.out
    have sy := st_enc hK SB.out
    have hxy : (enc r K a = enc r K b) = (a = b) := propext (enc_eq hK SA.out SB.out)
    have sd := st_dec hK SA.out
    have CD := Lib.hid (fun w' h => decrypt_any g r hr1 hr2 K a hK SA.out w' h)
    have CE := fun w' h => encrypt_any g r hr1 hr2 K (dec r K a) hK sd w' h
    rw [enc_dec hK SA.out] at CE
    have CE := Lib.hid CE
    have CF := fun w' h => decrypt_any g r hr1 hr2 K (enc r K a) hK sx w' h
    rw [dec_enc hK SA.out] at CF
    have CF := Lib.hid CF
    generalize enc r K a = x at *
    generalize enc r K b = y at *
    generalize dec r K a = d at *
    have lx := sx.1
    have ly := sy.1
    have ld := sd.1
    have hgl := SS.out.ciph.lt
    go_wp2_with fail
    obtain ⟨h0, hh0⟩ : ∃ h0, h0 = w2.heap.size := ⟨_, rfl⟩
    have hg0 : g < h0 := by omega
    have hB0 : w.heap.size + 1 < h0 := by omega
    have HH0 := Lib.hid hh0
    clear hh0
    refine wp_region_inv_closed (by kernel_rfl) (by kernel_rfl) (fun D z w' => ∃ v0 v1 v2 v3 v4 v5 v6 v7, z = { tmps := #[_, _, _, _, _, _, _, _, _, v6, v7, _, _, _, _, _, _, _, _, _, _, _, _, _, _, _, _, _, v0, v1, v2, v3, v4, v5, _, _, _, _, _, _, _, _, _, _, _, _, _, _, _, _, _, _, _, _, _, _, _, _, _], defers := [] } ∧ In6 w g r h0 K a b x y D w' v0 v1 v2 v3 v4 v5 v6 v7) ⟨_, _, _, _, _, _, _, _, rfl, { bs := SS.out.drew la lb, hi := by rw [HH0.out]; exact Nat.le_refl _, l0 := by simp, l1 := by simp, l2 := by simp, l3 := by simp, l4 := by simp, l5 := by simp, l6 := by simp, l7 := by simp, l67 := by simp }⟩ ?step ?fin
    case step =>
      rintro D z w3 ⟨v0, v1, v2, v3, v4, v5, v6, v7, rfl, s⟩ hcl i o ho hd hdep
      rcases i with _ | _ | _ | _ | _ | _ | _ | _ | _ | _ | i
      all_goals simp only [List.getElem?_toArray, List.getElem?_cons_succ, List.getElem?_cons_zero, Option.some.injEq] at ho
      · subst ho
        refine wpOp_of rfl rfl ?_
        go_simp
        exact ⟨_, _, _, _, _, _, _, _, ⟨rfl, rfl, rfl, rfl, rfl, rfl, rfl, rfl⟩, s.did0⟩
      · subst ho
        refine wpOp_of rfl rfl (wp_load_mid _ _ rfl w.heap.size 0 rfl (nv .u8 a) _ s.bs.hA.1 o16.hu rfl (by rw [length_nv, la]; exact o16.hi) ?_)
        exact ⟨_, _, _, _, _, _, _, _, rfl, s.did1⟩
      · subst ho
        obtain rfl := s.l0 (hdep ⟨0, .data⟩ (by simp) rfl)
        obtain rfl := s.l1 (hdep ⟨1, .data⟩ (by simp) rfl)
        refine wpOp_of rfl rfl ?_
        go_simp
        refine (CX.out _ s.bs.ciph).mono ?_
        rintro e w4 ⟨rfl, hbel⟩
        exact ⟨_, _, _, _, _, _, _, _, ⟨rfl, rfl, rfl, rfl, rfl, rfl, rfl, rfl⟩, (s.carry la lb lx ly hbel).did2⟩
      · subst ho
        refine wpOp_of rfl rfl ?_
        go_simp
        exact ⟨_, _, _, _, _, _, _, _, ⟨rfl, rfl, rfl, rfl, rfl, rfl, rfl, rfl⟩, s.did3⟩
      · subst ho
        refine wpOp_of rfl rfl (wp_load_mid _ _ rfl (w.heap.size + 1) 0 rfl (nv .u8 b) _ s.bs.hB.1 o16.hu rfl (by rw [length_nv, lb]; exact o16.hi) ?_)
        exact ⟨_, _, _, _, _, _, _, _, rfl, s.did4⟩
      · subst ho
        obtain rfl := s.l3 (hdep ⟨3, .data⟩ (by simp) rfl)
        obtain rfl := s.l4 (hdep ⟨4, .data⟩ (by simp) rfl)
        refine wpOp_of rfl rfl ?_
        go_simp
        refine (CY.out _ s.bs.ciph).mono ?_
        rintro e w4 ⟨rfl, hbel⟩
        exact ⟨_, _, _, _, _, _, _, _, ⟨rfl, rfl, rfl, rfl, rfl, rfl, rfl, rfl⟩, (s.carry la lb lx ly hbel).did5⟩
      · subst ho
        have h8 : D 8 = false := hcl.no (i := 8) rfl (e := ⟨6, .data⟩) (by simp) rfl hd
        have h9 : D 9 = false := hcl.no (i := 9) rfl (e := ⟨6, .phase⟩) (by simp) rfl hd
        refine wpOp_of rfl rfl ?_
        refine wp_alloc16 ?_
        exact ⟨_, _, _, _, _, _, _, _, rfl, s.did6 h8 h9 la lb lx ly⟩
      · subst ho
        have h8 : D 8 = false := hcl.no (i := 8) rfl (e := ⟨7, .phase⟩) (by simp) rfl hd
        have h9 : D 9 = false := hcl.no (i := 9) rfl (e := ⟨7, .data⟩) (by simp) rfl hd
        refine wpOp_of rfl rfl ?_
        refine wp_alloc16 ?_
        exact ⟨_, _, _, _, _, _, _, _, rfl, s.did7 h8 h9 la lb lx ly⟩
      · subst ho
        have d6 := hdep ⟨6, .data⟩ (by simp) rfl
        have d7 := hdep ⟨7, .phase⟩ (by simp) rfl
        obtain rfl := s.l2 (hdep ⟨2, .data⟩ (by simp) rfl)
        obtain ⟨q, rfl, hq, hk⟩ := s.l6 d6
        rw [hd] at hk
        refine wpOp_of rfl rfl (wp_store_mid _ _ _ rfl q 0 (na .u8 x) rfl rfl (by rw [size_na, lx]; have h2 := hk.2; rw [show (if false = true then x else zs 16) = zs 16 from rfl, length_zs] at h2; exact h2) (by rw [size_na, lx]; exact o16.hi) (all_oneCell_toArray (nv_one _ _)) ?_)
        exact ⟨_, _, _, _, _, _, _, _, rfl, s.did8 d6 d7 hd hg0 hB0 lx q rfl⟩
      · subst ho
        have d6 := hdep ⟨6, .phase⟩ (by simp) rfl
        have d7 := hdep ⟨7, .data⟩ (by simp) rfl
        obtain rfl := s.l5 (hdep ⟨5, .data⟩ (by simp) rfl)
        obtain ⟨q, rfl, hq, hk⟩ := s.l7 d7
        rw [hd] at hk
        refine wpOp_of rfl rfl (wp_store_mid _ _ _ rfl q 0 (na .u8 y) rfl rfl (by rw [size_na, ly]; have h2 := hk.2; rw [show (if false = true then y else zs 16) = zs 16 from rfl, length_zs] at h2; exact h2) (by rw [size_na, ly]; exact o16.hi) (all_oneCell_toArray (nv_one _ _)) ?_)
        exact ⟨_, _, _, _, _, _, _, _, rfl, s.did9 d6 d7 hd hg0 hB0 ly q rfl⟩
      · simp at ho
    case fin =>
      rintro D z w3 ⟨v0, v1, v2, v3, v4, v5, v6, v7, rfl, s⟩ hall
      obtain ⟨gx, rfl, hgx, hHx⟩ := s.l6 (hall 6 (by simp))
      obtain ⟨gy, rfl, hgy, hHy⟩ := s.l7 (hall 7 (by simp))
      rw [hall 8 (by simp), if_pos rfl] at hHx
      rw [hall 9 (by simp), if_pos rfl] at hHy
      have ST := Lib.hid (show S7 w g r K a b gx gy x y w3.drew from ⟨s.bs.drew la lb, hHx.drew, hHy.drew⟩)
      clear s hall hHx hHy SS
      obtain ⟨Bq, hBq⟩ : ∃ Bq, Bq = decide (a = b) := ⟨_, rfl⟩
      have q0 : ∀ wx : World, (Op.equalIn 10000 32 (.agg (na .u8 a)) (.agg (na .u8 a))).run Tryd.prog wx = .ok true wx := fun wx => by
        rw [Arr.eql o16 wx a a la la]; simp
      have q1 : ∀ wx : World, (Op.equalIn 10000 32 (.agg (na .u8 a)) (.agg (na .u8 b))).run Tryd.prog wx = .ok Bq wx := fun wx => by
        rw [Arr.eql o16 wx a b la lb, hBq]
      have q2 : ∀ wx : World, (Op.equalIn 10000 32 (.agg (na .u8 x)) (.agg (na .u8 y))).run Tryd.prog wx = .ok Bq wx := fun wx => by
        rw [Arr.eql o16 wx x y lx ly, hBq]
        congr 1
        exact decide_eq_decide.2 (by rw [hxy])
      clear hBq hxy
      have hu := Tryd.underlying32
      have ia : (Tryd.prog.info? 32).map (·.size) = some (nv .u8 a).length := by rw [length_nv, la]; exact o16.hi
      have ib : (Tryd.prog.info? 32).map (·.size) = some (nv .u8 b).length := by rw [length_nv, lb]; exact o16.hi
      have ix : (Tryd.prog.info? 32).map (·.size) = some (nv .u8 x).length := by rw [length_nv, lx]; exact o16.hi
      have iy : (Tryd.prog.info? 32).map (·.size) = some (nv .u8 y).length := by rw [length_nv, ly]; exact o16.hi
      go_wp2_with fail
      refine wp_region_held_drew (S := S7 w g r K a b gx gy x y) (by kernel_rfl) ST.out (fun hHeld => ?_)
      clear ST
      generalize w3.drew = wq at *
      refine wpAnyH_take (i := 0) (v := ?_) rfl (by kernel_rfl) (by kernel_rfl) (by kernel_rfl) (fun _ _ _ h => h) (Or.inl ⟨by rfl, ?_⟩) (by assumption) ?_
      rotate_left
      · (intro wz hSw; go_simp; try with_reducible rfl)
      try simp only [List.getElem_toArray, List.getElem_cons_zero, Act.put, List.setIfInBounds_toArray, List.set_cons_zero, List.set_cons_succ]
      refine wpAnyH_take (i := 1) (v := ?_) rfl (by kernel_rfl) (by kernel_rfl) (by kernel_rfl) (fun _ _ _ h => h) (Or.inl ⟨by rfl, ?_⟩) (by assumption) ?_
      rotate_left
      · (intro wz hSw; go_simp; try with_reducible rfl)
      try simp only [List.getElem_toArray, List.getElem_cons_zero, List.getElem_cons_succ, Act.put, List.setIfInBounds_toArray, List.set_cons_zero, List.set_cons_succ]
      refine' wpAnyH_take (i := 2) (v := _) rfl (by kernel_rfl) (by kernel_rfl) (by kernel_rfl) (fun _ _ _ h => h) (yieldsIf_load_mid (by rfl) _ _ rfl _ _ rfl _ _ (fun _ hs => hs.bs.hA.1) hu rfl ia) (by assumption) ?_
      try simp only [List.getElem_toArray, List.getElem_cons_zero, List.getElem_cons_succ, Act.put, List.setIfInBounds_toArray, List.set_cons_zero, List.set_cons_succ]
      refine' wpAnyH_take (i := 5) (v := _) rfl (by kernel_rfl) (by kernel_rfl) (by kernel_rfl) (fun _ _ _ h => h) (yieldsIf_load_mid (by rfl) _ _ rfl _ _ rfl _ _ (fun _ hs => hs.bs.hA.1) hu rfl ia) (by assumption) ?_
      try simp only [List.getElem_toArray, List.getElem_cons_zero, List.getElem_cons_succ, Act.put, List.setIfInBounds_toArray, List.set_cons_zero, List.set_cons_succ]
      refine wpAnyH_ready (rs := [3]) (by kernel_rfl) (by simp) (AllReadyH.cons rfl (fun K hK => ?_) AllReadyH.nil)
      go_simp
      refine (CD.out _ hHeld.bs.ciph).mono ?_
      rintro e w5 ⟨rfl, hbel⟩
      refine hK.out _ _ (hHeld.after la lb lx ly hbel) (fun hHeld2 => ?_)
      clear hHeld hK K hbel; have hHeld := hHeld2; clear hHeld2
      try simp only [List.getElem_toArray, List.getElem_cons_zero, List.getElem_cons_succ, Act.put, List.setIfInBounds_toArray, List.set_cons_zero, List.set_cons_succ]
      refine wpAnyH_ready (rs := [4]) (by kernel_rfl) (by simp) (AllReadyH.cons rfl (fun K hK => ?_) AllReadyH.nil)
      go_simp
      refine (CE.out _ hHeld.bs.ciph).mono ?_
      rintro e w5 ⟨rfl, hbel⟩
      refine hK.out _ _ (hHeld.after la lb lx ly hbel) (fun hHeld2 => ?_)
      clear hHeld hK K hbel; have hHeld := hHeld2; clear hHeld2
      try simp only [List.getElem_toArray, List.getElem_cons_zero, List.getElem_cons_succ, Act.put, List.setIfInBounds_toArray, List.set_cons_zero, List.set_cons_succ]
      refine wpAnyH_take (i := 6) (v := ?_) rfl (by kernel_rfl) (by kernel_rfl) (by kernel_rfl) (fun _ _ _ h => h) (Or.inl ⟨by rfl, ?_⟩) (by assumption) ?_
      rotate_left
      · (intro wz hSw; go_simp; try with_reducible rfl)
      try simp only [List.getElem_toArray, List.getElem_cons_zero, List.getElem_cons_succ, Act.put, List.setIfInBounds_toArray, List.set_cons_zero, List.set_cons_succ]
      refine wpAnyH_take (i := 7) (v := ?_) rfl (by kernel_rfl) (by kernel_rfl) (by kernel_rfl) (fun _ _ _ h => h) (Or.inl ⟨by rfl, ?_⟩) (by assumption) ?_
      rotate_left
      · (intro wz hSw; go_simp; try with_reducible rfl)
      try simp only [List.getElem_toArray, List.getElem_cons_zero, List.getElem_cons_succ, Act.put, List.setIfInBounds_toArray, List.set_cons_zero, List.set_cons_succ]
      refine wpAnyH_take (i := 8) (v := ?_) rfl (by kernel_rfl) (by kernel_rfl) (by kernel_rfl) (fun _ _ _ h => h) (Or.inl ⟨by rfl, ?_⟩) (by assumption) ?_
      rotate_left
      · (intro wz hSw; go_simp; try with_reducible rfl)
      try simp only [List.getElem_toArray, List.getElem_cons_zero, List.getElem_cons_succ, Act.put, List.setIfInBounds_toArray, List.set_cons_zero, List.set_cons_succ]
      refine wpAnyH_take (i := 9) (v := ?_) rfl (by kernel_rfl) (by kernel_rfl) (by kernel_rfl) (fun _ _ _ h => h) (Or.inl ⟨by rfl, ?_⟩) (by assumption) ?_
      rotate_left
      · (intro wz hSw; go_simp; try with_reducible rfl)
      try simp only [List.getElem_toArray, List.getElem_cons_zero, List.getElem_cons_succ, Act.put, List.setIfInBounds_toArray, List.set_cons_zero, List.set_cons_succ]
      refine' wpAnyH_take (i := 10) (v := _) rfl (by kernel_rfl) (by kernel_rfl) (by kernel_rfl) (fun _ _ _ h => h) (yieldsIf_load_mid (by rfl) _ _ rfl _ _ rfl _ _ (fun _ hs => hs.bs.hA.1) hu rfl ia) (by assumption) ?_
      try simp only [List.getElem_toArray, List.getElem_cons_zero, List.getElem_cons_succ, Act.put, List.setIfInBounds_toArray, List.set_cons_zero, List.set_cons_succ]
      refine' wpAnyH_take (i := 13) (v := _) rfl (by kernel_rfl) (by kernel_rfl) (by kernel_rfl) (fun _ _ _ h => h) (yieldsIf_load_mid (by rfl) _ _ rfl _ _ rfl _ _ (fun _ hs => hs.bs.hA.1) hu rfl ia) (by assumption) ?_
      try simp only [List.getElem_toArray, List.getElem_cons_zero, List.getElem_cons_succ, Act.put, List.setIfInBounds_toArray, List.set_cons_zero, List.set_cons_succ]
      refine wpAnyH_ready (rs := [11]) (by kernel_rfl) (by simp) (AllReadyH.cons rfl (fun K hK => ?_) AllReadyH.nil)
      go_simp
      refine (CX.out _ hHeld.bs.ciph).mono ?_
      rintro e w5 ⟨rfl, hbel⟩
      refine hK.out _ _ (hHeld.after la lb lx ly hbel) (fun hHeld2 => ?_)
      clear hHeld hK K hbel; have hHeld := hHeld2; clear hHeld2
      try simp only [List.getElem_toArray, List.getElem_cons_zero, List.getElem_cons_succ, Act.put, List.setIfInBounds_toArray, List.set_cons_zero, List.set_cons_succ]
      refine wpAnyH_ready (rs := [12]) (by kernel_rfl) (by simp) (AllReadyH.cons rfl (fun K hK => ?_) AllReadyH.nil)
      go_simp
      refine (CF.out _ hHeld.bs.ciph).mono ?_
      rintro e w5 ⟨rfl, hbel⟩
      refine hK.out _ _ (hHeld.after la lb lx ly hbel) (fun hHeld2 => ?_)
      clear hHeld hK K hbel; have hHeld := hHeld2; clear hHeld2
      try simp only [List.getElem_toArray, List.getElem_cons_zero, List.getElem_cons_succ, Act.put, List.setIfInBounds_toArray, List.set_cons_zero, List.set_cons_succ]
      refine wpAnyH_take (i := 14) (v := ?_) rfl (by kernel_rfl) (by kernel_rfl) (by kernel_rfl) (fun _ _ _ h => h) (Or.inl ⟨by rfl, ?_⟩) (by assumption) ?_
      rotate_left
      · (intro wz hSw; go_simp; try with_reducible rfl)
      try simp only [List.getElem_toArray, List.getElem_cons_zero, List.getElem_cons_succ, Act.put, List.setIfInBounds_toArray, List.set_cons_zero, List.set_cons_succ]
      refine wpAnyH_take (i := 15) (v := ?_) rfl (by kernel_rfl) (by kernel_rfl) (by kernel_rfl) (fun _ _ _ h => h) (Or.inl ⟨by rfl, ?_⟩) (by assumption) ?_
      rotate_left
      · (intro wz hSw; go_simp; try with_reducible rfl)
      try simp only [List.getElem_toArray, List.getElem_cons_zero, List.getElem_cons_succ, Act.put, List.setIfInBounds_toArray, List.set_cons_zero, List.set_cons_succ]
      refine wpAnyH_take (i := 16) (v := ?_) rfl (by kernel_rfl) (by kernel_rfl) (by kernel_rfl) (fun _ _ _ h => h) (Or.inl ⟨by rfl, ?_⟩) (by assumption) ?_
      rotate_left
      · (intro wz hSw; go_simp; try with_reducible rfl)
      try simp only [List.getElem_toArray, List.getElem_cons_zero, List.getElem_cons_succ, Act.put, List.setIfInBounds_toArray, List.set_cons_zero, List.set_cons_succ]
      refine' wpAnyH_take (i := 17) (v := _) rfl (by kernel_rfl) (by kernel_rfl) (by kernel_rfl) (fun _ _ _ h => h) (yieldsIf_load_mid (by rfl) _ _ rfl _ _ rfl _ _ (fun _ hs => hs.bs.hA.1) hu rfl ia) (by assumption) ?_
      try simp only [List.getElem_toArray, List.getElem_cons_zero, List.getElem_cons_succ, Act.put, List.setIfInBounds_toArray, List.set_cons_zero, List.set_cons_succ]
      refine' wpAnyH_take (i := 18) (v := _) rfl (by kernel_rfl) (by kernel_rfl) (by kernel_rfl) (fun _ _ _ h => h) (yieldsIf_load_mid (by rfl) _ _ rfl _ _ rfl _ _ (fun _ hs => hs.bs.hB.1) hu rfl ib) (by assumption) ?_
      try simp only [List.getElem_toArray, List.getElem_cons_zero, List.getElem_cons_succ, Act.put, List.setIfInBounds_toArray, List.set_cons_zero, List.set_cons_succ]
      refine wpAnyH_take (i := 19) (v := ?_) rfl (by kernel_rfl) (by kernel_rfl) (by kernel_rfl) (fun _ _ _ h => h) (Or.inl ⟨by rfl, ?_⟩) (by assumption) ?_
      rotate_left
      · (intro wz hSw; go_simp; try with_reducible rfl)
      try simp only [List.getElem_toArray, List.getElem_cons_zero, List.getElem_cons_succ, Act.put, List.setIfInBounds_toArray, List.set_cons_zero, List.set_cons_succ]
      refine' wpAnyH_take (i := 20) (v := _) rfl (by kernel_rfl) (by kernel_rfl) (by kernel_rfl) (fun _ _ _ h => h) (yieldsIf_load_mid (by rfl) _ _ rfl _ _ rfl _ _ (fun _ hs => hs.hx.1) hu rfl ix) (by assumption) ?_
      try simp only [List.getElem_toArray, List.getElem_cons_zero, List.getElem_cons_succ, Act.put, List.setIfInBounds_toArray, List.set_cons_zero, List.set_cons_succ]
      refine' wpAnyH_take (i := 21) (v := _) rfl (by kernel_rfl) (by kernel_rfl) (by kernel_rfl) (fun _ _ _ h => h) (yieldsIf_load_mid (by rfl) _ _ rfl _ _ rfl _ _ (fun _ hs => hs.hy.1) hu rfl iy) (by assumption) ?_
      try simp only [List.getElem_toArray, List.getElem_cons_zero, List.getElem_cons_succ, Act.put, List.setIfInBounds_toArray, List.set_cons_zero, List.set_cons_succ]
      refine wpAnyH_take (i := 22) (v := ?_) rfl (by kernel_rfl) (by kernel_rfl) (by kernel_rfl) (fun _ _ _ h => h) (Or.inl ⟨by rfl, ?_⟩) (by assumption) ?_
      rotate_left
      · (intro wz hSw; go_simp; try with_reducible rfl)
      try simp only [List.getElem_toArray, List.getElem_cons_zero, List.getElem_cons_succ, Act.put, List.setIfInBounds_toArray, List.set_cons_zero, List.set_cons_succ]
      refine wpAnyH_take (i := 23) (v := ?_) rfl (by kernel_rfl) (by kernel_rfl) (by kernel_rfl) (fun _ _ _ h => h) (Or.inl ⟨by rfl, ?_⟩) (by assumption) ?_
      rotate_left
      · (intro wz hSw; go_simp; try with_reducible rfl)
      try simp only [List.getElem_toArray, List.getElem_cons_zero, List.getElem_cons_succ, Act.put, List.setIfInBounds_toArray, List.set_cons_zero, List.set_cons_succ]
      refine wpAnyH_take (i := 24) (v := ?_) rfl (by kernel_rfl) (by kernel_rfl) (by kernel_rfl) (fun _ _ _ h => h) (Or.inl ⟨by rfl, ?_⟩) (by assumption) ?_
      rotate_left
      · (intro wz hSw; go_simp; try with_reducible rfl)
      try simp only [List.getElem_toArray, List.getElem_cons_zero, List.getElem_cons_succ, Act.put, List.setIfInBounds_toArray, List.set_cons_zero, List.set_cons_succ]
      refine wpAnyH_take (i := 25) (v := ?_) rfl (by kernel_rfl) (by kernel_rfl) (by kernel_rfl) (fun _ _ _ h => h) (Or.inl ⟨by rfl, ?_⟩) (by assumption) ?_
      rotate_left
      · (intro wz hSw; go_simp; try with_reducible rfl)
      try simp only [List.getElem_toArray, List.getElem_cons_zero, List.getElem_cons_succ, Act.put, List.setIfInBounds_toArray, List.set_cons_zero, List.set_cons_succ]
      refine wpAnyH_done (by kernel_rfl) ?_ _
      have F := Lib.hid hHeld.bs.bel
      clear hHeld
      go_wp2
      go_ret
      exact ⟨rfl, F.out⟩
  · have C0 := Lib.hid (new_none A n cap (by omega) (by omega) w1)
    have t1 : ((n : Int) == 16) = false := by simp; omega
    have t2 : ((n : Int) != 16) = true := by simp; omega
    have t3 : ((n : Int) == 32) = false := by simp; omega
    have t4 : ((n : Int) != 32) = true := by simp; omega
    go_wp2_with fail
    refine C0.out.mono ?_
    rintro e w2 ⟨rfl, rfl⟩
    go_wp2
    go_ret
    exact ⟨rfl, D3.out⟩
end Go.Proofs.YtkpifmnojmenaaaDoor
