/-
  Contracts of (*aes.Cipher).Rounds, Encrypt and Decrypt: of a cipher that is none, and of one whose keys and boxes lie in its block. No other conditions.
-/
import Derived.Test.YtdjknmnmacppdaaDoorMixAll
namespace Go.Proofs.YtdjknmnmacppdaaDoor
open Go.RowKit Arr Gf Sb Ae

/-- Block g holds a cipher: r rounds, the keys K, the boxes. -/
structure Ciph (w : World) (g r : Nat) (K : List Nat) : Prop where
  rounds : w.cell? ⟨g, 0, none⟩ = some (.int .i64 (r : Int))
  len : K.length = 240
  keys : HAt w g 1 .u8 K
  box : HAt w g 241 .u8 boxL
  back : HAt w g 497 .u8 bk
  twice : HAt w g 753 .u8 twL
theorem Ciph.lt {w : World} {g r : Nat} {K : List Nat} (h : Ciph w g r K) : g < w.heap.size := block_lt_of_cell h.rounds
theorem Ciph.below {w w' : World} {B g r : Nat} {K : List Nat} (h : Ciph w g r K) (hb : Below B w w') (hg : g < B) : Ciph w' g r K :=
  ⟨(hb.cell (p := ⟨g, 0, none⟩) hg).trans h.rounds, h.len, h.keys.below hb hg, h.box.below hb hg, h.back.below hb hg, h.twice.below hb hg⟩
theorem Ciph.key {w : World} {g r : Nat} {K : List Nat} (h : Ciph w g r K) (j : Nat) (hj : j < 15) : HAt w g (1 + 16 * j) .u8 (ek K j) := h.keys.part (16 * j) 16 (by rw [h.len]; omega)

/-- What stands while a block is enciphered or deciphered: the cipher, the state x, the place of the answer; nothing that was there is changed. -/
structure Env (w w' : World) (g r : Nat) (K x : List Nat) : Prop where
  lt : g < w.heap.size
  ciph : Ciph w' g r K
  state : Holds w' w.heap.size .u8 x
  answer : Holds w' (w.heap.size + 1) .u8 (zs 16)
  below : Below w.heap.size w w'
theorem Env.drew {w w' : World} {g r : Nat} {K x : List Nat} (h : Env w w' g r K x) : Env w w'.drew g r K x :=
  ⟨h.lt, h.ciph.below (B := w'.heap.size) (below_drew (Below.refl _ _)) h.ciph.lt, h.state.drew, h.answer.drew, below_drew h.below⟩
theorem Env.after {w w' w'' : World} {g r : Nat} {K x : List Nat} (h : Env w w' g r K x) (hx : x.length = 16) (hb : Below w'.heap.size w' w'') : Env w w'' g r K x :=
  ⟨h.lt, h.ciph.below hb h.ciph.lt, h.state.below hb (h.state.lt (by omega)), h.answer.below hb (h.answer.lt (by rw [length_zs]; omega)), h.below.trans (hb.mono h.below.size)⟩
theorem Env.put {w w' : World} {g r : Nat} {K x : List Nat} (h : Env w w' g r K x) (m : List Nat) (hm : m.length = x.length) : Env w (w'.setCells w.heap.size 0 (nv .u8 m)) g r K m :=
  ⟨h.lt, ⟨(by
      have := World.rangeAt_setCells_apart (w := w') (b' := g) (o' := 0) (cs := [.int .i64 (r : Int)]) (fun j v hv => by
        cases j with
        | zero => simp at hv; subst hv; exact h.ciph.rounds
        | succ j => simp at hv) w.heap.size 0 (nv .u8 m) (.inl (by have := h.lt; omega))
      exact this 0 _ rfl), h.ciph.len, h.ciph.keys.apart _ _ _ (.inl (by have := h.lt; omega)), h.ciph.box.apart _ _ _ (.inl (by have := h.lt; omega)), h.ciph.back.apart _ _ _ (.inl (by have := h.lt; omega)), h.ciph.twice.apart _ _ _ (.inl (by have := h.lt; omega))⟩,
    h.state.put m hm, h.answer.apart _ _ _ (by omega), below_setCells (Nat.le_refl _) _ _ _ h.below⟩
theorem Env.begin (w : World) (g r : Nat) (K b : List Nat) (h : Ciph w g r K) : Env w ((w.alloc (.cells (na .u8 b) 34)).alloc (.cells (na .u8 (zs 16)) 34)) g r K b := by
  obtain ⟨A1, A2, A3⟩ := two_new w b 34
  exact ⟨h.lt, h.below A3 h.lt, A1, A2, A3⟩

theorem rounds_any (g r : Nat) (K : List Nat) (w : World) (h : Ciph w g r K) : Calls Tryd.prog 35 #[.pointer (some ⟨g, 0, none⟩)] w fun e w' => e = .returned (.int .i64 (r : Int)) ∧ w = w' := by
  have hr := h.rounds
  clear h
  go_enter Tryd.func35, Tryd.ntmps35
  go_wp2
  go_ret
  exact ⟨rfl, rfl⟩
theorem rounds_nil (w : World) : Calls Tryd.prog 35 #[.pointer none] w fun e w' => e = .returned (.int .i64 0) ∧ w = w' := by
  go_enter Tryd.func35, Tryd.ntmps35
  go_wp2
  go_ret
  exact ⟨rfl, rfl⟩

set_option maxHeartbeats 4000000 in
set_option maxRecDepth 10000 in
theorem encrypt_any (g r : Nat) (hr : 1 ≤ r) (hr' : r ≤ 14) (K b : List Nat) (hK : Keys r K) (hb : St b) (w : World) (h : Ciph w g r K) : Calls Tryd.prog 18 #[.pointer (some ⟨g, 0, none⟩), .agg (na .u8 b)] w (GivesA (enc r K b) w) := by
  have E0 := Lib.hid (Env.begin w g r K b h)
  have C0 := Lib.hid (fun w' h => rounds_any g r K w' h)
  have hb' := Lib.hid hb
  have hK' := Lib.hid hK
  have HE := Lib.hid (show enc r K b = encS r K r (xorL b (ek K 0)) from rfl)
  have t0 : ((r : Int) == 0) = false := by simp; omega
  clear h hb hK
  go_enter Tryd.func18, Tryd.ntmps18
  go_wp2_with (first | (with_reducible refine Arr.alloc (t := 34) _ z16 ?_) | fail)
  refine (C0.out _ E0.out.ciph).mono ?_
  rintro e w' ⟨rfl, rfl⟩
  generalize (w.alloc (.cells (na .u8 b) 34)).alloc (.cells (na .u8 (zs 16)) 34) = w0 at *
  go_wp2_with fail
  refine region_tail 6 (by kernel_rfl) (by kernel_rfl) ?_
  intro wd hwd
  have E1 : Env w wd g r K b := by rw [hwd]; exact E0.out.drew
  clear hwd E0
  have L1 := Lib.hid E1.state.at0
  have L2 := Lib.hid (show HAt wd g 1 .u8 (ek K 0) from E1.ciph.key 0 (by omega))
  have k0 := hK'.out 0 (by omega)
  have lb := hb'.out.1
  have lk := k0.1
  have C1 := Lib.hid (together_any b (ek K 0) hb'.out k0 wd)
  have hx := st_xor hb'.out k0
  generalize xorL b (ek K 0) = x0 at *
  generalize ek K 0 = key0 at *
  have E1 := Lib.hid E1
  simp only [List.take_succ_cons, List.take_zero, List.drop_succ_cons, List.drop_zero]
  repeat (first | (with_reducible refine stillLoad o16 w.heap.size 0 b lb L1.out rfl ?_) | (with_reducible refine stillLoad o16 g 1 key0 lk L2.out rfl ?_) | still_step)
  refine wpStill_nil ?_
  go_wp2_with fail
  refine C1.out.mono ?_
  rintro e w1 ⟨rfl, hbel⟩
  have E2 := Lib.hid (E1.out.after lb hbel)
  have E3 := Lib.hid (E2.out.put x0 (by rw [hx.1, lb]))
  clear hbel L1 L2 E1 C1
  have lx := hx.1
  go_wp2_with (first | (with_reducible refine Arr.store o16 w.heap.size b x0 lb E2.out.state lx rfl rfl ?_) | fail)
  generalize w1.setCells w.heap.size 0 (nv .u8 x0) = w3 at *
  clear E2 lb lk k0 C0
  have HX := Lib.hid hx
  clear hx lx
  go_loopw [5] (fun i wr => ∃ k j : Nat, k ≤ r ∧ Go.RowKit.Hid (j = k + 1) ∧ i = .int .i64 (j : Nat) ∧ Env w wr g r K (encS r K k x0)) (fun i _ => r + 1 - (intOf i).toNat)
  case atStart => exact ⟨0, 1, by omega, Lib.hid rfl, rfl, E3.out⟩
  case round =>
    clear E3
    obtain ⟨k, j, hk, HJ, rfl, hE⟩ := hrel
    have hx := st_encS hK'.out HX.out k hk
    have hrd := hE.ciph.rounds
    by_cases hlt : k < r
    · have hj : j ≤ r := by have := HJ.out; omega
      have tj : decide ((j : Int) ≤ (r : Int)) = true := by simp; omega
      have kj := hK'.out j hj
      have h1 : St (subL boxL (encS r K k x0)) := st_sub boxL_by
      have h2 := st_turn (p := 1) h1
      have C1 := Lib.hid (fun w' h => boxed_any (encS r K k x0) boxL hx boxL_len g 241 w' h)
      have C2 := Lib.hid (fun w' => turned16_any (subL boxL (encS r K k x0)) h1 1 (by omega) w')
      have HSA := Lib.hid (show j < r → encS r K (k + 1) x0 = xorL (mixL (turnL 1 (subL boxL (encS r K k x0)))) (ek K j) from fun h => by rw [encS, E, ← HJ.out, if_pos h])
      have HSB := Lib.hid (show ¬ j < r → encS r K (k + 1) x0 = xorL (turnL 1 (subL boxL (encS r K k x0))) (ek K j) from fun h => by rw [encS, E, ← HJ.out, if_neg h])
      generalize encS r K k x0 = x at *
      have C3 := Lib.hid (fun w' h => mixed_any (turnL 1 (subL boxL x)) h2 g 753 w' h)
      have h3 := st_mix h2
      have C4 := Lib.hid (fun w' => together_any (mixL (turnL 1 (subL boxL x))) (ek K j) h3 kj w')
      have C5 := Lib.hid (fun w' => together_any (turnL 1 (subL boxL x)) (ek K j) h2 kj w')
      have h4 := st_xor h3 kj
      have h5 := st_xor h2 kj
      generalize xorL (mixL (turnL 1 (subL boxL x))) (ek K j) = z4 at *
      generalize xorL (turnL 1 (subL boxL x)) (ek K j) = z5 at *
      generalize mixL (turnL 1 (subL boxL x)) = x3 at *
      generalize turnL 1 (subL boxL x) = x2 at *
      generalize subL boxL x = x1 at *
      have F0 := Lib.hid hE
      clear hE
      go_wp2_with fail
      refine region_tail 4 (by kernel_rfl) (by kernel_rfl) ?_
      intro wd hwd
      have F1 : Env w wd g r K x := by rw [hwd]; exact F0.out.drew
      clear hwd F0 hrd
      have L1 := Lib.hid F1.state.at0
      have lx := hx.1
      have F1 := Lib.hid F1
      simp only [List.take_succ_cons, List.take_zero, List.drop_succ_cons, List.drop_zero]
      repeat (first | (with_reducible refine stillLoad o16 w.heap.size 0 x lx L1.out rfl ?_) | still_step)
      refine wpStill_nil ?_
      go_wp2_with fail
      refine (C1.out _ F1.out.ciph.box).mono ?_
      rintro e w1 ⟨rfl, hbel⟩
      have F2 := Lib.hid (F1.out.after lx hbel)
      clear hbel F1 L1
      go_wp2_with fail
      refine (C2.out _).mono ?_
      rintro e w2 ⟨rfl, hbel⟩
      have F3 := Lib.hid (F2.out.after lx hbel)
      clear hbel F2
      have lx2 := h2.1
      have F4 := Lib.hid (F3.out.put x2 (by rw [lx2, lx]))
      have hrd := F4.out.ciph.rounds
      by_cases hjr : j < r
      · have tr : decide ((j : Int) < (r : Int)) = true := by simp; omega
        go_wp2_with (first | (with_reducible refine Arr.store o16 w.heap.size x x2 lx F3.out.state lx2 rfl rfl ?_) | fail)
        refine region_tail 4 (by kernel_rfl) (by kernel_rfl) ?_
        intro wd hwd
        have F5 : Env w wd g r K x2 := by rw [hwd]; exact F4.out.drew
        clear hwd F4 F3 hrd
        have L1 := Lib.hid F5.state.at0
        have lx3 := h3.1
        have F5 := Lib.hid F5
        simp only [List.take_succ_cons, List.take_zero, List.drop_succ_cons, List.drop_zero]
        repeat (first | (with_reducible refine stillLoad o16 w.heap.size 0 x2 lx2 L1.out rfl ?_) | still_step)
        refine wpStill_nil ?_
        go_wp2_with fail
        refine (C3.out _ F5.out.ciph.twice).mono ?_
        rintro e w3 ⟨rfl, hbel⟩
        have F6 := Lib.hid (F5.out.after lx2 hbel)
        have F7 := Lib.hid (F6.out.put x3 (by rw [lx3, lx2]))
        clear hbel F5 L1
        go_wp2_with (first | (with_reducible refine Arr.store o16 w.heap.size x2 x3 lx2 F6.out.state lx3 rfl rfl ?_) | fail)
        generalize w3.setCells w.heap.size 0 (nv .u8 x3) = w5 at *
        have F5 := F7
        have hrd := F5.out.ciph.rounds
        clear F6 F7
        refine region_tail 7 (by kernel_rfl) (by kernel_rfl) ?_
        intro wd hwd
        have F6 : Env w wd g r K x3 := by rw [hwd]; exact F5.out.drew
        clear hwd F5 hrd
        have L1 := Lib.hid F6.state.at0
        have L2 := Lib.hid (show HAt wd g (1 + j * 16) .u8 (ek K j) by rw [Nat.mul_comm]; exact F6.ciph.key j (by omega))
        have lk := kj.1
        have j15 : (j : Int) < 15 := by omega
        have lz := h4.1
        have F6 := Lib.hid F6
        generalize ek K j = key at *
        simp only [List.take_succ_cons, List.take_zero, List.drop_succ_cons, List.drop_zero]
        repeat (first | (with_reducible refine stillLoad o16 w.heap.size 0 x3 lx3 L1.out rfl ?_) | (with_reducible refine stillLoad o16 g (1 + j * 16) key lk L2.out rfl ?_) | still_step)
        refine wpStill_nil ?_
        go_wp2_with fail
        refine (C4.out _).mono ?_
        rintro e w4 ⟨rfl, hbel⟩
        have F7 := Lib.hid (F6.out.after lx3 hbel)
        have F8 := Lib.hid (F7.out.put z4 (by rw [lz, lx3]))
        clear hbel F6 L1 L2
        go_wp2_with (first | (with_reducible refine Arr.store o16 w.heap.size x3 z4 lx3 F7.out.state lz rfl rfl ?_) | fail)
        go_roundw
        case rel => exact ⟨k + 1, j + 1, by omega, Lib.hid (by have := HJ.out; omega), by go_num, by rw [HSA.out hjr]; exact F8.out⟩
        case measure => simp [intOf]; omega
      · have tr : decide ((j : Int) < (r : Int)) = false := by simp; omega
        go_wp2_with (first | (with_reducible refine Arr.store o16 w.heap.size x x2 lx F3.out.state lx2 rfl rfl ?_) | fail)
        generalize w2.setCells w.heap.size 0 (nv .u8 x2) = w5 at *
        have F5 := F4
        clear F3 F4
        refine region_tail 7 (by kernel_rfl) (by kernel_rfl) ?_
        intro wd hwd
        have F6 : Env w wd g r K x2 := by rw [hwd]; exact F5.out.drew
        clear hwd F5 hrd
        have L1 := Lib.hid F6.state.at0
        have L2 := Lib.hid (show HAt wd g (1 + j * 16) .u8 (ek K j) by rw [Nat.mul_comm]; exact F6.ciph.key j (by omega))
        have lk := kj.1
        have j15 : (j : Int) < 15 := by omega
        have lz := h5.1
        have F6 := Lib.hid F6
        generalize ek K j = key at *
        simp only [List.take_succ_cons, List.take_zero, List.drop_succ_cons, List.drop_zero]
        repeat (first | (with_reducible refine stillLoad o16 w.heap.size 0 x2 lx2 L1.out rfl ?_) | (with_reducible refine stillLoad o16 g (1 + j * 16) key lk L2.out rfl ?_) | still_step)
        refine wpStill_nil ?_
        go_wp2_with fail
        refine (C5.out _).mono ?_
        rintro e w4 ⟨rfl, hbel⟩
        have F7 := Lib.hid (F6.out.after lx2 hbel)
        have F8 := Lib.hid (F7.out.put z5 (by rw [lz, lx2]))
        clear hbel F6 L1 L2
        go_wp2_with (first | (with_reducible refine Arr.store o16 w.heap.size x2 z5 lx2 F7.out.state lz rfl rfl ?_) | fail)
        go_roundw
        case rel => exact ⟨k + 1, j + 1, by omega, Lib.hid (by have := HJ.out; omega), by go_num, by rw [HSB.out hjr]; exact F8.out⟩
        case measure => simp [intOf]; omega
    · obtain rfl : k = r := by omega
      have tj : decide (j ≤ k) = false := by have := HJ.out; simp; omega
      have F0 := Lib.hid hE
      rw [← HE.out] at hx F0
      generalize enc k K b = m at *
      have lm := hx.1
      clear hE hx
      go_wp2_with (first | (with_reducible refine Arr.load o16 w.heap.size m lm F0.out.state rfl ?_) | (with_reducible refine Arr.store o16 (w.heap.size + 1) (zs 16) m (length_zs _) F0.out.answer lm rfl rfl ?_))
      exact bodyPost_ret (v := .agg (na .u8 m)) (results_arr o16 rfl _ _ (w.heap.size + 1) m lm (F0.out.answer.put _ (by rw [lm, length_zs])) rfl) rfl ⟨rfl, below_setCells (by omega) _ _ _ F0.out.below⟩
end Go.Proofs.YtdjknmnmacppdaaDoor
