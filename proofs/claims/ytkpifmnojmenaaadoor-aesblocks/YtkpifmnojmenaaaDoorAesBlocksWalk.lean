/-
  The walk of the law AesBlocks: for every key and every block it answers true and leaves what was there. Condition: the table of widths stands in its variable. (Written by tools/gen_blocks4.py.)
-/
import Derived.Test.YtkpifmnojmenaaaDoorAesAwake
import Derived.Test.YtkpifmnojmenaaaDoorAesMake4
import Derived.Test.YtkpifmnojmenaaaDoorAesMake8
import Derived.Test.YtkpifmnojmenaaaDoorAesRenc
namespace Go.Proofs.YtkpifmnojmenaaaDoor
open Go.RowKit Arr Gf Sb Ae
set_option linter.unusedSimpArgs false

/-- What a call of New leaves, the key being one, whichever, and what is known of its keys. -/
def MadeK (bs : List Nat) (k : Nat) (w : World) (e : Ending) (w' : World) : Prop :=
  ∃ g, e = .returned (.tuple #[.pointer (some ⟨g, 0, none⟩), .int .i64 0]) ∧ Ciph w' g (k + 6) (keysOf bs k) ∧ Below w.heap.size w w'
theorem new_either (bs : List Nat) (k : Nat) (hk : k = 4 ∨ k = 8) (h : bs.length = 4 * k) (A : Option Addr) (c : Nat) (hc : bs.length ≤ c) (w : World) (hb : Bys w w.heap.size A bs) (ht : Tab w 0) :
    Calls Tryd.prog 7 #[.slice A bs.length c] w (MadeK bs k w) := by
  rcases hk with rfl | rfl
  · rw [h]
    refine (new4 bs h A c (by omega) w hb ht).mono ?_
    rintro e w' ⟨g, rfl, hC, -, hB⟩
    exact ⟨g, rfl, hC, hB⟩
  · rw [h]
    refine (new8 bs h A c (by omega) w hb ht).mono ?_
    rintro e w' ⟨g, rfl, hC, -, hB⟩
    exact ⟨g, rfl, hC, hB⟩
theorem make_either (bs : List Nat) (k : Nat) (hk : k = 4 ∨ k = 8) (h : bs.length = 4 * k) (A : Option Addr) (c : Nat) (w : World) (hb : Bys w w.heap.size A bs) :
    Calls Tryd.prog 12 #[.slice A bs.length c] w (RMade bs k w) := by
  rcases hk with rfl | rfl
  · rw [h]; exact make4 bs h A c w hb
  · rw [h]; exact make8 bs h A c w hb

/-- What is held in the law's last statement. -/
structure S9 (w : World) (g r : Nat) (K b : List Nat) (gx : Nat) (x : List Nat) (w' : World) : Prop where
  ciph : Ciph w' g r K
  hB : Holds w' w.heap.size .u8 b
  hx : Holds w' gx .u8 x
  bel : Below w.heap.size w w'
theorem S9.after {w w' w'' : World} {g r : Nat} {K b : List Nat} {gx : Nat} {x : List Nat} (s : S9 w g r K b gx x w') (hb : b.length = 16) (lx : x.length = 16) (h : Below w'.heap.size w' w'') : S9 w g r K b gx x w'' :=
  ⟨s.ciph.below h s.ciph.lt, s.hB.below h (s.hB.lt (by omega)), s.hx.below h (s.hx.lt (by omega)), s.bel.trans (h.mono s.bel.size)⟩

set_option maxHeartbeats 3000000 in
set_option maxRecDepth 10000 in
theorem aesBlocks_walk (bs : List Nat) (A : Option Addr) (cap : Nat) (b : List Nat) (w : World) (ht : Tab w 0) (hb : Bys w w.heap.size A bs) (hc : bs.length ≤ cap) (_hn : A = none → cap = 0) (lb : b.length = 16) (bb : ∀ i, b.getD i 0 < 256) :
    Calls Tryd.prog 4 #[.slice A bs.length cap, .agg (na .u8 b)] w (Ret true w) := by
  have A1 := Holds.new w 32 .u8 b
  have A3 := below_alloc w (.cells (na .u8 b) 32)
  have B1 := Lib.hid A1
  have B3 := Lib.hid A3
  have HB := Lib.hid hb
  have HT := Lib.hid ht
  have htw := ht.lt
  have sb : St b := ⟨lb, bb⟩
  have SB := Lib.hid sb
  clear A1 A3 hb ht bb sb
  generalize hn : bs.length = n at *
  have HN := Lib.hid hn
  clear hn
  go_enter Tryd.func4, Tryd.ntmps4
  go_wp2_with fail
  generalize w.alloc (.cells (na .u8 b) 32) = w0 at *
  refine (awake_any w0 (HT.out.below B3.out htw)).mono ?_
  rintro e w1 ⟨rfl, hbel⟩
  have D1 := Lib.hid (B1.out.below hbel (B1.out.lt (by omega)))
  have D3 := Lib.hid (B3.out.trans (hbel.mono B3.out.size))
  clear hbel B1 B3
  by_cases h16 : n = 16 ∨ n = 32
  · obtain ⟨k, hk, hnk⟩ : ∃ k, (k = 4 ∨ k = 8) ∧ n = 4 * k := by
      rcases h16 with h | h
      · exact ⟨4, .inl rfl, h⟩
      · exact ⟨8, .inr rfl, h⟩
    have hbk : bs.length = 4 * k := by rw [HN.out]; exact hnk
    have CN := new_either bs k hk hbk A cap (by rw [HN.out]; exact hc) w1 ((HB.out.below D3.out).more D3.out.size) (HT.out.below D3.out htw)
    have CM := fun w' hw' => make_either bs k hk hbk A cap w' hw'
    rw [HN.out] at CN CM
    have CN := Lib.hid (show Calls Tryd.prog 7 #[.slice A n cap] w1 (fun e w' => ∃ g, e = .returned (.tuple #[.pointer (some ⟨g, 0, none⟩), .int .i64 0]) ∧ Ciph w' g (k + 6) (keysOf bs k) ∧ Below w1.heap.size w1 w') from CN)
    have CM := Lib.hid CM
    have hK := keys_ok bs k (k + 6) (by omega)
    have hsame : ∀ j i, j ≤ k + 6 → i < 16 → (allB (words bs k) (4 * (k + 7))).getD (16 * j + i) 0 = (ek (keysOf bs k) j).getD i 0 := fun j i hj hi => allB_ek _ _ _ _ (by omega) (by omega) hi
    have CE := Lib.hid (fun gk gB cB gb cb w' h => renc_any gk (k + 6) gB cB gb cb (allB (words bs k) (4 * (k + 7))) (keysOf bs k) b (by omega) (by omega) hK SB.out (allB_lt _ _) (by rw [length_allB]; omega) hsame w' h)
    have CX := Lib.hid (fun g w' h => encrypt_any g (k + 6) (by omega) (by omega) (keysOf bs k) b hK SB.out w' h)
    have sx := st_enc hK SB.out
    have CF := fun g w' h => decrypt_any g (k + 6) (by omega) (by omega) (keysOf bs k) (enc (k + 6) (keysOf bs k) b) hK sx w' h
    rw [dec_enc hK SB.out] at CF
    have CF := Lib.hid CF
    have RM := Lib.hid (show ∀ w e w', RMade bs k w e w' → ∃ g gB cB gb cb, e = .returned (.pointer (some ⟨g, 0, none⟩)) ∧ RKey w' g (k + 6) gB cB (allB (words bs k) (4 * (k + 7))) gb cb ∧ Below w.heap.size w w' from fun _ _ _ h => h)
    have ln0 : 0 < (allB (words bs k) (4 * (k + 7))).length := by rw [length_allB]; omega
    clear hsame hbk
    generalize keysOf bs k = KK at *
    generalize allB (words bs k) (4 * (k + 7)) = AL at *
    generalize k + 6 = rk at *
    generalize enc rk KK b = x at *
    clear hnk hk
    rcases h16 with rfl | rfl
    all_goals
      go_wp2_with fail
      refine CN.out.mono ?_
      rintro e w2 ⟨g, rfl, hC, hbel⟩
      have hB2 : w.heap.size < w1.heap.size := D1.out.lt (by omega)
      have HC := Lib.hid hC
      have E1 := Lib.hid (D1.out.below hbel hB2)
      have E3 := Lib.hid (D3.out.trans (hbel.mono D3.out.size))
      clear D1 D3 hC hbel CN
      have lx := sx.1
      go_wp2_with (first | (with_reducible refine Arr.load o16 w.heap.size b lb E1.out rfl ?_) | fail)
      refine (CX.out g _ HC.out).mono ?_
      rintro e w3 ⟨rfl, hbel⟩
      have HC3 := HC.out.below hbel HC.out.lt
      have F1 := E1.out.below hbel (E1.out.lt (by omega))
      have F3 := E3.out.trans (hbel.mono E3.out.size)
      have N0 := Holds.new w3 32 .u8 (zs 16)
      have hal3 := below_alloc w3 (.cells (na .u8 (zs 16)) 32)
      have hgw : w.heap.size < w3.heap.size := F1.lt (by omega)
      have hg3 := HC3.lt
      have HC4 := HC3.below hal3 hg3
      have ST0 := Lib.hid (show S9 w g rk KK b w3.heap.size x ((w3.alloc (.cells (na .u8 (zs 16)) 32)).setCells w3.heap.size 0 (nv .u8 x)) from
        ⟨⟨cell_apart 0 _ _ _ _ HC4.rounds (by omega), HC4.len, HC4.keys.apart _ _ _ (by omega), HC4.box.apart _ _ _ (by omega), HC4.back.apart _ _ _ (by omega), HC4.twice.apart _ _ _ (by omega)⟩,
          (F1.alloc _).apart _ _ _ (by omega), N0.put x (by rw [lx, length_zs]), below_setCells F3.size _ _ _ (F3.alloc F3.size _)⟩)
      have N0 := Lib.hid N0
      clear hbel HC3 F1 F3 HC4 hal3 E1 E3 HC CX
      go_wp2_with (first | (with_reducible refine Arr.alloc (t := 32) _ z16 ?_) | (with_reducible refine Arr.store o16 w3.heap.size (zs 16) x (length_zs _) N0.out lx rfl rfl ?_) | fail)
      generalize (w3.alloc (.cells (na .u8 (zs 16)) 32)).setCells w3.heap.size 0 (nv .u8 x) = w4 at *
      clear N0 hgw hg3
      generalize w3.heap.size = gx at *
      have ST := Lib.hid (ST0.out.after lb lx (below_drew (Below.refl _ _)))
      clear ST0
      have q0 : ∀ wx : World, (Op.equalIn 10000 32 (.agg (na .u8 x)) (.agg (na .u8 x))).run Tryd.prog wx = .ok true wx := fun wx => by
        rw [Arr.eql o16 wx x x lx lx]; simp
      have q1 : ∀ wx : World, (Op.equalIn 10000 32 (.agg (na .u8 b)) (.agg (na .u8 b))).run Tryd.prog wx = .ok true wx := fun wx => by
        rw [Arr.eql o16 wx b b lb lb]; simp
      have hu := Tryd.underlying32
      have ib : (Tryd.prog.info? 32).map (·.size) = some (nv .u8 b).length := by rw [length_nv, lb]; exact o16.hi
      have ix : (Tryd.prog.info? 32).map (·.size) = some (nv .u8 x).length := by rw [length_nv, lx]; exact o16.hi
      refine wp_region_held_drew (S := S9 w g rk KK b gx x) (by kernel_rfl) ST.out (fun hHeld => ?_)
      clear ST
      generalize w4.drew = wq at *
      refine' wpAnyH_take (i := 0) (v := _) rfl (by kernel_rfl) (by kernel_rfl) (by kernel_rfl) (fun _ _ _ h => h) (yieldsIf_load_mid (by rfl) _ _ rfl _ _ rfl _ _ (fun _ hs => hs.hx.1) hu rfl ix) (by assumption) ?_
      try simp only [List.getElem_toArray, List.getElem_cons_zero, List.getElem_cons_succ, Act.put, List.setIfInBounds_toArray, List.set_cons_zero, List.set_cons_succ]
      refine wpAnyH_take (i := 1) (v := ?_) rfl (by kernel_rfl) (by kernel_rfl) (by kernel_rfl) (fun _ _ _ h => h) (Or.inl ⟨by rfl, ?_⟩) (by assumption) ?_
      rotate_left
      · (intro wz hSw; go_simp; try with_reducible rfl)
      try simp only [List.getElem_toArray, List.getElem_cons_zero, List.getElem_cons_succ, Act.put, List.setIfInBounds_toArray, List.set_cons_zero, List.set_cons_succ]
      refine' wpAnyH_take (i := 3) (v := _) rfl (by kernel_rfl) (by kernel_rfl) (by kernel_rfl) (fun _ _ _ h => h) (yieldsIf_load_mid (by rfl) _ _ rfl _ _ rfl _ _ (fun _ hs => hs.hB.1) hu rfl ib) (by assumption) ?_
      try simp only [List.getElem_toArray, List.getElem_cons_zero, List.getElem_cons_succ, Act.put, List.setIfInBounds_toArray, List.set_cons_zero, List.set_cons_succ]
      refine wpAnyH_ready (rs := [2]) (by kernel_rfl) (by simp) (AllReadyH.cons rfl (fun K hK => ?_) AllReadyH.nil)
      go_simp
      refine (CM.out _ ((HB.out.below hHeld.bel).more hHeld.bel.size)).mono ?_
      intro e w5 hm5
      obtain ⟨gk, gB, cB, gb, cb, rfl, hKey, hbel⟩ := RM.out _ _ _ hm5
      have KY := Lib.hid hKey
      refine hK.out _ _ (hHeld.after lb lx hbel) (fun hHeld2 => ?_)
      clear hHeld hK K hbel hm5 hKey; have hHeld := hHeld2; clear hHeld2
      try simp only [List.getElem_toArray, List.getElem_cons_zero, List.getElem_cons_succ, Act.put, List.setIfInBounds_toArray, List.set_cons_zero, List.set_cons_succ]
      refine wpAnyH_ready (rs := [4]) (by kernel_rfl) (by simp) (AllReadyH.cons rfl (fun K hK => ?_) AllReadyH.nil)
      go_simp
      refine (CE.out gk gB cB gb cb _ KY.out).mono ?_
      rintro e w6 ⟨rfl, hbel⟩
      refine hK.out _ _ (hHeld.after lb lx hbel) (fun hHeld2 => ?_)
      clear hHeld hK K hbel; have hHeld := hHeld2; clear hHeld2
      try simp only [List.getElem_toArray, List.getElem_cons_zero, List.getElem_cons_succ, Act.put, List.setIfInBounds_toArray, List.set_cons_zero, List.set_cons_succ]
      refine wpAnyH_take (i := 5) (v := ?_) rfl (by kernel_rfl) (by kernel_rfl) (by kernel_rfl) (fun _ _ _ h => h) (Or.inl ⟨by rfl, ?_⟩) (by assumption) ?_
      rotate_left
      · (intro wz hSw; go_simp; try with_reducible rfl)
      try simp only [List.getElem_toArray, List.getElem_cons_zero, List.getElem_cons_succ, Act.put, List.setIfInBounds_toArray, List.set_cons_zero, List.set_cons_succ]
      refine wpAnyH_take (i := 6) (v := ?_) rfl (by kernel_rfl) (by kernel_rfl) (by kernel_rfl) (fun _ _ _ h => h) (Or.inl ⟨by rfl, ?_⟩) (by assumption) ?_
      rotate_left
      · (intro wz hSw; go_simp; try with_reducible rfl)
      try simp only [List.getElem_toArray, List.getElem_cons_zero, List.getElem_cons_succ, Act.put, List.setIfInBounds_toArray, List.set_cons_zero, List.set_cons_succ]
      refine wpAnyH_take (i := 7) (v := ?_) rfl (by kernel_rfl) (by kernel_rfl) (by kernel_rfl) (fun _ _ _ h => h) (Or.inl ⟨by rfl, ?_⟩) (by assumption) ?_
      rotate_left
      · (intro wz hSw; go_simp; try with_reducible rfl)
      try simp only [List.getElem_toArray, List.getElem_cons_zero, List.getElem_cons_succ, Act.put, List.setIfInBounds_toArray, List.set_cons_zero, List.set_cons_succ]
      refine' wpAnyH_take (i := 8) (v := _) rfl (by kernel_rfl) (by kernel_rfl) (by kernel_rfl) (fun _ _ _ h => h) (yieldsIf_load_mid (by rfl) _ _ rfl _ _ rfl _ _ (fun _ hs => hs.hx.1) hu rfl ix) (by assumption) ?_
      try simp only [List.getElem_toArray, List.getElem_cons_zero, List.getElem_cons_succ, Act.put, List.setIfInBounds_toArray, List.set_cons_zero, List.set_cons_succ]
      refine' wpAnyH_take (i := 10) (v := _) rfl (by kernel_rfl) (by kernel_rfl) (by kernel_rfl) (fun _ _ _ h => h) (yieldsIf_load_mid (by rfl) _ _ rfl _ _ rfl _ _ (fun _ hs => hs.hB.1) hu rfl ib) (by assumption) ?_
      try simp only [List.getElem_toArray, List.getElem_cons_zero, List.getElem_cons_succ, Act.put, List.setIfInBounds_toArray, List.set_cons_zero, List.set_cons_succ]
      refine wpAnyH_ready (rs := [9]) (by kernel_rfl) (by simp) (AllReadyH.cons rfl (fun K hK => ?_) AllReadyH.nil)
      go_simp
      refine (CF.out g _ hHeld.ciph).mono ?_
      rintro e w7 ⟨rfl, hbel⟩
      refine hK.out _ _ (hHeld.after lb lx hbel) (fun hHeld2 => ?_)
      clear hHeld hK K hbel; have hHeld := hHeld2; clear hHeld2
      try simp only [List.getElem_toArray, List.getElem_cons_zero, List.getElem_cons_succ, Act.put, List.setIfInBounds_toArray, List.set_cons_zero, List.set_cons_succ]
      refine wpAnyH_take (i := 11) (v := ?_) rfl (by kernel_rfl) (by kernel_rfl) (by kernel_rfl) (fun _ _ _ h => h) (Or.inl ⟨by rfl, ?_⟩) (by assumption) ?_
      rotate_left
      · (intro wz hSw; go_simp; try with_reducible rfl)
      try simp only [List.getElem_toArray, List.getElem_cons_zero, List.getElem_cons_succ, Act.put, List.setIfInBounds_toArray, List.set_cons_zero, List.set_cons_succ]
      refine wpAnyH_take (i := 12) (v := ?_) rfl (by kernel_rfl) (by kernel_rfl) (by kernel_rfl) (fun _ _ _ h => h) (Or.inl ⟨by rfl, ?_⟩) (by assumption) ?_
      rotate_left
      · (intro wz hSw; go_simp; try with_reducible rfl)
      try simp only [List.getElem_toArray, List.getElem_cons_zero, List.getElem_cons_succ, Act.put, List.setIfInBounds_toArray, List.set_cons_zero, List.set_cons_succ]
      refine wpAnyH_take (i := 13) (v := ?_) rfl (by kernel_rfl) (by kernel_rfl) (by kernel_rfl) (fun _ _ _ h => h) (Or.inl ⟨by rfl, ?_⟩) (by assumption) ?_
      rotate_left
      · (intro wz hSw; go_simp; try with_reducible rfl)
      try simp only [List.getElem_toArray, List.getElem_cons_zero, List.getElem_cons_succ, Act.put, List.setIfInBounds_toArray, List.set_cons_zero, List.set_cons_succ]
      refine wpAnyH_done (by kernel_rfl) ?_ _
      have F := Lib.hid hHeld.bel
      clear hHeld
      go_wp2
      go_ret
      exact ⟨rfl, F.out⟩
  · have t1 : ((n : Int) == 16) = false := by simp; omega
    have t2 : ((n : Int) != 16) = true := by simp; omega
    have t3 : ((n : Int) == 32) = false := by simp; omega
    have t4 : ((n : Int) != 32) = true := by simp; omega
    go_wp2
    go_ret
    exact ⟨rfl, D3.out⟩
end Go.Proofs.YtkpifmnojmenaaaDoor
