/-
  The contract of (*aes.Cipher).Decrypt. Condition: the cipher's keys and boxes lie in its block.
-/
import Derived.Test.YtdjknmnmacppdaaDoorAesEnc
import Derived.Test.YtdjknmnmacppdaaDoorAnyInv
namespace Go.Proofs.YtdjknmnmacppdaaDoor
open Go.RowKit Arr Gf Sb Ae

/-- What holds of the statement that turns and boxes, D having come up. -/
structure In9 (w : World) (g r : Nat) (K x : List Nat) (D : Nat → Bool) (w' : World) (v0 v1 v2 v3 v4 v5 : Value) : Prop where
  env : D 6 = false → Env w w' g r K x
  fin : D 6 = true → Env w w' g r K (subL bk (turnL 3 x))
  l0 : D 0 = true → v0 = .agg (na .u8 x)
  l1 : D 1 = true → v1 = .agg (na .u8 (turnL 3 x))
  l2 : D 2 = true → v2 = .pointer (some ⟨g, 0, none⟩)
  l3 : D 3 = true → v3 = .pointer (some ⟨g, 0, none⟩)
  l4 : D 4 = true → v4 = .pointer (some ⟨g, 497, none⟩)
  l5 : D 5 = true → v5 = .agg (na .u8 (subL bk (turnL 3 x)))
section
variable {w w' : World} {g r : Nat} {K x : List Nat} {D : Nat → Bool} {v0 v1 v2 v3 v4 v5 : Value}
theorem In9.did0 (s : In9 w g r K x D w' v0 v1 v2 v3 v4 v5) : In9 w g r K x (fun j => j == 0 || D j) w' (.agg (na .u8 x)) v1 v2 v3 v4 v5 :=
  { env := by simpa using s.env, fin := by simpa using s.fin, l0 := fun _ => rfl, l1 := by simpa using s.l1, l2 := by simpa using s.l2, l3 := by simpa using s.l3, l4 := by simpa using s.l4, l5 := by simpa using s.l5 }
theorem In9.did1 (s : In9 w g r K x D w' v0 v1 v2 v3 v4 v5) : In9 w g r K x (fun j => j == 1 || D j) w' v0 (.agg (na .u8 (turnL 3 x))) v2 v3 v4 v5 :=
  { env := by simpa using s.env, fin := by simpa using s.fin, l0 := by simpa using s.l0, l1 := fun _ => rfl, l2 := by simpa using s.l2, l3 := by simpa using s.l3, l4 := by simpa using s.l4, l5 := by simpa using s.l5 }
theorem In9.did2 (s : In9 w g r K x D w' v0 v1 v2 v3 v4 v5) : In9 w g r K x (fun j => j == 2 || D j) w' v0 v1 (.pointer (some ⟨g, 0, none⟩)) v3 v4 v5 :=
  { env := by simpa using s.env, fin := by simpa using s.fin, l0 := by simpa using s.l0, l1 := by simpa using s.l1, l2 := fun _ => rfl, l3 := by simpa using s.l3, l4 := by simpa using s.l4, l5 := by simpa using s.l5 }
theorem In9.did3 (s : In9 w g r K x D w' v0 v1 v2 v3 v4 v5) : In9 w g r K x (fun j => j == 3 || D j) w' v0 v1 v2 (.pointer (some ⟨g, 0, none⟩)) v4 v5 :=
  { env := by simpa using s.env, fin := by simpa using s.fin, l0 := by simpa using s.l0, l1 := by simpa using s.l1, l2 := by simpa using s.l2, l3 := fun _ => rfl, l4 := by simpa using s.l4, l5 := by simpa using s.l5 }
theorem In9.did4 (s : In9 w g r K x D w' v0 v1 v2 v3 v4 v5) : In9 w g r K x (fun j => j == 4 || D j) w' v0 v1 v2 v3 (.pointer (some ⟨g, 497, none⟩)) v5 :=
  { env := by simpa using s.env, fin := by simpa using s.fin, l0 := by simpa using s.l0, l1 := by simpa using s.l1, l2 := by simpa using s.l2, l3 := by simpa using s.l3, l4 := fun _ => rfl, l5 := by simpa using s.l5 }
theorem In9.did5 (s : In9 w g r K x D w' v0 v1 v2 v3 v4 v5) : In9 w g r K x (fun j => j == 5 || D j) w' v0 v1 v2 v3 v4 (.agg (na .u8 (subL bk (turnL 3 x)))) :=
  { env := by simpa using s.env, fin := by simpa using s.fin, l0 := by simpa using s.l0, l1 := by simpa using s.l1, l2 := by simpa using s.l2, l3 := by simpa using s.l3, l4 := by simpa using s.l4, l5 := fun _ => rfl }
theorem In9.carry {w'' : World} (s : In9 w g r K x D w' v0 v1 v2 v3 v4 v5) (h6 : D 6 = false) (hx : x.length = 16) (hb : Below w'.heap.size w' w'') : In9 w g r K x D w'' v0 v1 v2 v3 v4 v5 :=
  { env := fun h => (s.env h).after hx hb, fin := fun h => absurd h (by rw [h6]; simp), l0 := s.l0, l1 := s.l1, l2 := s.l2, l3 := s.l3, l4 := s.l4, l5 := s.l5 }
theorem In9.did6 (s : In9 w g r K x D w' v0 v1 v2 v3 v4 v5) (h6 : D 6 = false) (hx : x.length = 16) : In9 w g r K x (fun j => j == 6 || D j) (w'.setCells w.heap.size 0 (nv .u8 (subL bk (turnL 3 x)))) v0 v1 v2 v3 v4 v5 :=
  { env := by simp, fin := fun _ => (s.env h6).put _ (by rw [hx]; simp [subL]), l0 := by simpa using s.l0, l1 := by simpa using s.l1, l2 := by simpa using s.l2, l3 := by simpa using s.l3, l4 := by simpa using s.l4, l5 := by simpa using s.l5 }
end

set_option maxHeartbeats 4000000 in
set_option maxRecDepth 10000 in
theorem decrypt_any (g r : Nat) (hr : 1 ≤ r) (hr' : r ≤ 14) (K b : List Nat) (hK : Keys r K) (hb : St b) (w : World) (h : Ciph w g r K) : Calls Tryd.prog 19 #[.pointer (some ⟨g, 0, none⟩), .agg (na .u8 b)] w (GivesA (dec r K b) w) := by
  have E0 := Lib.hid (Env.begin w g r K b h)
  have C0 := Lib.hid (fun w' h => rounds_any g r K w' h)
  have hb' := Lib.hid hb
  have hK' := Lib.hid hK
  have HE := Lib.hid (show dec r K b = xorL (decG r K r b) (ek K 0) from rfl)
  have t0 : ((r : Int) == 0) = false := by simp; omega
  have lbk : bk.length = 256 := Sw.length_sw _
  clear h hb hK
  go_enter Tryd.func19, Tryd.ntmps19
  go_wp2_with (first | (with_reducible refine Arr.alloc (t := 34) _ z16 ?_) | fail)
  refine (C0.out _ E0.out.ciph).mono ?_
  rintro e w' ⟨rfl, rfl⟩
  generalize (w.alloc (.cells (na .u8 b) 34)).alloc (.cells (na .u8 (zs 16)) 34) = w0 at *
  have hrd := E0.out.ciph.rounds
  go_wp2_with fail
  go_loopw [5] (fun i wr => ∃ (j : Nat) (x : List Nat), j ≤ r ∧ i = .int .i64 (j : Nat) ∧ St x ∧ decG r K j x = decG r K r b ∧ Env w wr g r K x) (fun i _ => (intOf i).toNat)
  case atStart => exact ⟨r, b, by omega, rfl, hb'.out, rfl, E0.out⟩
  case round =>
    clear E0 hrd
    obtain ⟨j, x, hj, rfl, hx, hG, hE⟩ := hrel
    have hrd := hE.ciph.rounds
    by_cases hlt : 1 ≤ j
    · have tj : decide (1 ≤ j) = true := by simp; omega
      have kj := hK'.out j hj
      have h1 := st_xor hx kj
      have h2 := st_unmix h1
      have C1 := Lib.hid (fun w' => together_any x (ek K j) hx kj w')
      have C2 := Lib.hid (fun w' h => unmixed_any (xorL x (ek K j)) h1 g 753 w' h)
      have C3 := Lib.hid (fun (y : List Nat) hy w' => turned16_any y hy 3 (by omega) w')
      have C4 := Lib.hid (fun (y : List Nat) hy w' h => boxed_any (turnL 3 y) bk (st_turn (p := 3) hy) lbk g 497 w' h)
      obtain ⟨i, hi⟩ : ∃ i, j = i + 1 := ⟨j - 1, by omega⟩
      have HGA := Lib.hid (show j < r → decG r K i (subL bk (turnL 3 (unmixL (xorL x (ek K j))))) = decG r K r b from fun h => by rw [← hG, hi, decG, ← hi, Dc, if_pos h])
      have HGB := Lib.hid (show ¬ j < r → decG r K i (subL bk (turnL 3 (xorL x (ek K j)))) = decG r K r b from fun h => by rw [← hG, hi, decG, ← hi, Dc, if_neg h])
      have HI := Lib.hid hi
      clear hi hG
      generalize unmixL (xorL x (ek K j)) = x2 at *
      generalize xorL x (ek K j) = x1 at *
      have F0 := Lib.hid hE
      clear hE
      go_wp2_with fail
      refine region_tail 7 (by kernel_rfl) (by kernel_rfl) ?_
      intro wd hwd
      have F1 : Env w wd g r K x := by rw [hwd]; exact F0.out.drew
      clear hwd F0 hrd
      have L1 := Lib.hid F1.state.at0
      have L2 := Lib.hid (show HAt wd g (1 + j * 16) .u8 (ek K j) by rw [Nat.mul_comm]; exact F1.ciph.key j (by omega))
      have lx := hx.1
      have lk := kj.1
      have lx1 := h1.1
      have j15 : (j : Int) < 15 := by omega
      have F1 := Lib.hid F1
      generalize ek K j = key at *
      simp only [List.take_succ_cons, List.take_zero, List.drop_succ_cons, List.drop_zero]
      repeat (first | (with_reducible refine stillLoad o16 w.heap.size 0 x lx L1.out rfl ?_) | (with_reducible refine stillLoad o16 g (1 + j * 16) key lk L2.out rfl ?_) | still_step)
      refine wpStill_nil ?_
      go_wp2_with fail
      refine (C1.out _).mono ?_
      rintro e w1 ⟨rfl, hbel⟩
      have F2 := Lib.hid (F1.out.after lx hbel)
      have F3 := Lib.hid (F2.out.put x1 (by rw [lx1, lx]))
      clear hbel F1 L1 L2
      have hrd := F3.out.ciph.rounds
      by_cases hjr : j < r
      · have tr : decide ((j : Int) < (r : Int)) = true := by simp; omega
        go_wp2_with (first | (with_reducible refine Arr.store o16 w.heap.size x x1 lx F2.out.state lx1 rfl rfl ?_) | fail)
        refine region_tail 4 (by kernel_rfl) (by kernel_rfl) ?_
        intro wd hwd
        have F4 : Env w wd g r K x1 := by rw [hwd]; exact F3.out.drew
        clear hwd F3 F2 hrd
        have L1 := Lib.hid F4.state.at0
        have lx2 := h2.1
        have F4 := Lib.hid F4
        simp only [List.take_succ_cons, List.take_zero, List.drop_succ_cons, List.drop_zero]
        repeat (first | (with_reducible refine stillLoad o16 w.heap.size 0 x1 lx1 L1.out rfl ?_) | still_step)
        refine wpStill_nil ?_
        go_wp2_with fail
        refine (C2.out _ F4.out.ciph.twice).mono ?_
        rintro e w3 ⟨rfl, hbel⟩
        have F5 := Lib.hid (F4.out.after lx1 hbel)
        have F6 := Lib.hid (F5.out.put x2 (by rw [lx2, lx1]))
        clear hbel F4 L1
        go_wp2_with (first | (with_reducible refine Arr.store o16 w.heap.size x1 x2 lx1 F5.out.state lx2 rfl rfl ?_) | fail)
        generalize w3.setCells w.heap.size 0 (nv .u8 x2) = w5 at *
        clear F5
        refine wp_region_inv_closed (by kernel_rfl) (by kernel_rfl) (fun D a w' => ∃ v0 v1 v2 v3 v4 v5, a = { tmps := #[_, _, _, _, _, _, _, _, _, _, _, _, _, _, _, _, _, _, _, _, _, _, _, _, _, _, _, _, _, _, _, _, _, _, _, _, _, v0, v1, v2, v3, v4, v5, _, _, _, _, _, _, _], defers := [] } ∧ In9 w g r K x2 D w' v0 v1 v2 v3 v4 v5) ⟨_, _, _, _, _, _, rfl, { env := fun _ => F6.out.drew, fin := by simp, l0 := by simp, l1 := by simp, l2 := by simp, l3 := by simp, l4 := by simp, l5 := by simp }⟩ ?step ?fin
        case step =>
          rintro D y w1 ⟨v0, v1, v2, v3, v4, v5, rfl, s⟩ hcl i o ho hd hdep
          rcases i with _ | _ | _ | _ | _ | _ | _ | i
          all_goals simp only [List.getElem?_toArray, List.getElem?_cons_succ, List.getElem?_cons_zero, Option.some.injEq] at ho
          · subst ho
            have h6 : D 6 = false := hcl.no (i := 6) rfl (e := ⟨0, .phase⟩) (by simp) rfl hd
            refine wpOp_of rfl rfl (wp_load_mid _ _ rfl w.heap.size 0 rfl (nv .u8 x2) _ (s.env h6).state.1 o16.hu rfl (by rw [length_nv, lx2]; exact o16.hi) ?_)
            exact ⟨_, _, _, _, _, _, rfl, s.did0⟩
          · subst ho
            have h6 : D 6 = false := hcl.no (i := 6) rfl (e := ⟨1, .phase⟩) (by simp) rfl hd
            obtain rfl := s.l0 (hdep ⟨0, .data⟩ (by simp) rfl)
            refine wpOp_of rfl rfl ?_
            go_simp
            refine (C3.out x2 h2 _).mono ?_
            rintro e w2 ⟨rfl, hbel⟩
            exact ⟨_, _, _, _, _, _, ⟨rfl, rfl, rfl, rfl, rfl, rfl⟩, (s.carry h6 lx2 hbel).did1⟩
          · subst ho
            refine wpOp_of rfl rfl ?_
            go_simp
            exact ⟨_, _, _, _, _, _, ⟨rfl, rfl, rfl, rfl, rfl, rfl⟩, s.did2⟩
          · subst ho
            obtain rfl := s.l2 (hdep ⟨2, .data⟩ (by simp) rfl)
            refine wpOp_of rfl rfl ?_
            go_simp
            exact ⟨_, _, _, _, _, _, ⟨rfl, rfl, rfl, rfl, rfl, rfl⟩, s.did3⟩
          · subst ho
            obtain rfl := s.l3 (hdep ⟨3, .data⟩ (by simp) rfl)
            refine wpOp_of rfl rfl ?_
            go_simp
            exact ⟨_, _, _, _, _, _, ⟨rfl, rfl, rfl, rfl, rfl, rfl⟩, s.did4⟩
          · subst ho
            have h6 : D 6 = false := hcl.no (i := 6) rfl (e := ⟨5, .data⟩) (by simp) rfl hd
            obtain rfl := s.l1 (hdep ⟨1, .data⟩ (by simp) rfl)
            obtain rfl := s.l4 (hdep ⟨4, .data⟩ (by simp) rfl)
            refine wpOp_of rfl rfl ?_
            go_simp
            refine (C4.out x2 h2 _ (s.env h6).ciph.back).mono ?_
            rintro e w2 ⟨rfl, hbel⟩
            exact ⟨_, _, _, _, _, _, ⟨rfl, rfl, rfl, rfl, rfl, rfl⟩, (s.carry h6 lx2 hbel).did5⟩
          · subst ho
            obtain rfl := s.l5 (hdep ⟨5, .data⟩ (by simp) rfl)
            have lz : (subL bk (turnL 3 x2)).length = 16 := by simp [subL]
            refine wpOp_of rfl rfl (wp_store_mid _ _ _ rfl w.heap.size 0 (na .u8 (subL bk (turnL 3 x2))) rfl rfl (by rw [size_na, lz, ← lx2]; exact (s.env hd).state.2) (by rw [size_na, lz]; exact o16.hi) (all_oneCell_toArray (nv_one _ _)) ?_)
            exact ⟨_, _, _, _, _, _, rfl, s.did6 hd lx2⟩
          · simp at ho
        case fin =>
          rintro D y w6 ⟨v0, v1, v2, v3, v4, v5, rfl, s⟩ hall
          have F9 := Lib.hid (s.fin (hall 6 (by simp)))
          clear s hall F6
          have hz : St (subL bk (turnL 3 x2)) := st_sub bk_by
          generalize subL bk (turnL 3 x2) = z at *
          go_wp2
          go_roundw
          case rel => exact ⟨i, z, by have := HI.out; omega, by have := HI.out; go_num, hz, HGA.out hjr, F9.out⟩
          case measure => (have := HI.out; simp [intOf] <;> omega)
      · have tr : decide ((j : Int) < (r : Int)) = false := by simp; omega
        go_wp2_with (first | (with_reducible refine Arr.store o16 w.heap.size x x1 lx F2.out.state lx1 rfl rfl ?_) | fail)
        generalize w1.setCells w.heap.size 0 (nv .u8 x1) = w5 at *
        clear F2
        refine wp_region_inv_closed (by kernel_rfl) (by kernel_rfl) (fun D a w' => ∃ v0 v1 v2 v3 v4 v5, a = { tmps := #[_, _, _, _, _, _, _, _, _, _, _, _, _, _, _, _, _, _, _, _, _, _, _, _, _, _, _, _, _, _, _, _, _, _, _, _, _, v0, v1, v2, v3, v4, v5, _, _, _, _, _, _, _], defers := [] } ∧ In9 w g r K x1 D w' v0 v1 v2 v3 v4 v5) ⟨_, _, _, _, _, _, rfl, { env := fun _ => F3.out.drew, fin := by simp, l0 := by simp, l1 := by simp, l2 := by simp, l3 := by simp, l4 := by simp, l5 := by simp }⟩ ?step ?fin
        case step =>
          rintro D y w1 ⟨v0, v1, v2, v3, v4, v5, rfl, s⟩ hcl i o ho hd hdep
          rcases i with _ | _ | _ | _ | _ | _ | _ | i
          all_goals simp only [List.getElem?_toArray, List.getElem?_cons_succ, List.getElem?_cons_zero, Option.some.injEq] at ho
          · subst ho
            have h6 : D 6 = false := hcl.no (i := 6) rfl (e := ⟨0, .phase⟩) (by simp) rfl hd
            refine wpOp_of rfl rfl (wp_load_mid _ _ rfl w.heap.size 0 rfl (nv .u8 x1) _ (s.env h6).state.1 o16.hu rfl (by rw [length_nv, lx1]; exact o16.hi) ?_)
            exact ⟨_, _, _, _, _, _, rfl, s.did0⟩
          · subst ho
            have h6 : D 6 = false := hcl.no (i := 6) rfl (e := ⟨1, .phase⟩) (by simp) rfl hd
            obtain rfl := s.l0 (hdep ⟨0, .data⟩ (by simp) rfl)
            refine wpOp_of rfl rfl ?_
            go_simp
            refine (C3.out x1 h1 _).mono ?_
            rintro e w2 ⟨rfl, hbel⟩
            exact ⟨_, _, _, _, _, _, ⟨rfl, rfl, rfl, rfl, rfl, rfl⟩, (s.carry h6 lx1 hbel).did1⟩
          · subst ho
            refine wpOp_of rfl rfl ?_
            go_simp
            exact ⟨_, _, _, _, _, _, ⟨rfl, rfl, rfl, rfl, rfl, rfl⟩, s.did2⟩
          · subst ho
            obtain rfl := s.l2 (hdep ⟨2, .data⟩ (by simp) rfl)
            refine wpOp_of rfl rfl ?_
            go_simp
            exact ⟨_, _, _, _, _, _, ⟨rfl, rfl, rfl, rfl, rfl, rfl⟩, s.did3⟩
          · subst ho
            obtain rfl := s.l3 (hdep ⟨3, .data⟩ (by simp) rfl)
            refine wpOp_of rfl rfl ?_
            go_simp
            exact ⟨_, _, _, _, _, _, ⟨rfl, rfl, rfl, rfl, rfl, rfl⟩, s.did4⟩
          · subst ho
            have h6 : D 6 = false := hcl.no (i := 6) rfl (e := ⟨5, .data⟩) (by simp) rfl hd
            obtain rfl := s.l1 (hdep ⟨1, .data⟩ (by simp) rfl)
            obtain rfl := s.l4 (hdep ⟨4, .data⟩ (by simp) rfl)
            refine wpOp_of rfl rfl ?_
            go_simp
            refine (C4.out x1 h1 _ (s.env h6).ciph.back).mono ?_
            rintro e w2 ⟨rfl, hbel⟩
            exact ⟨_, _, _, _, _, _, ⟨rfl, rfl, rfl, rfl, rfl, rfl⟩, (s.carry h6 lx1 hbel).did5⟩
          · subst ho
            obtain rfl := s.l5 (hdep ⟨5, .data⟩ (by simp) rfl)
            have lz : (subL bk (turnL 3 x1)).length = 16 := by simp [subL]
            refine wpOp_of rfl rfl (wp_store_mid _ _ _ rfl w.heap.size 0 (na .u8 (subL bk (turnL 3 x1))) rfl rfl (by rw [size_na, lz, ← lx1]; exact (s.env hd).state.2) (by rw [size_na, lz]; exact o16.hi) (all_oneCell_toArray (nv_one _ _)) ?_)
            exact ⟨_, _, _, _, _, _, rfl, s.did6 hd lx1⟩
          · simp at ho
        case fin =>
          rintro D y w6 ⟨v0, v1, v2, v3, v4, v5, rfl, s⟩ hall
          have F9 := Lib.hid (s.fin (hall 6 (by simp)))
          clear s hall F3
          have hz : St (subL bk (turnL 3 x1)) := st_sub bk_by
          generalize subL bk (turnL 3 x1) = z at *
          go_wp2
          go_roundw
          case rel => exact ⟨i, z, by have := HI.out; omega, by have := HI.out; go_num, hz, HGB.out hjr, F9.out⟩
          case measure => (have := HI.out; simp [intOf] <;> omega)
    · obtain rfl : j = 0 := by omega
      have HG := Lib.hid hG
      have hG' : decG r K r b = x := hG.symm
      rw [hG'] at HE
      have k0 := hK'.out 0 (by omega)
      have C1 := Lib.hid (fun w' => together_any x (ek K 0) hx k0 w')
      have hz := st_xor hx k0
      generalize xorL x (ek K 0) = z at *
      have F0 := Lib.hid hE
      clear hE hG hG' HG
      go_wp2_with fail
      refine region_tail 6 (by kernel_rfl) (by kernel_rfl) ?_
      intro wd hwd
      have F1 : Env w wd g r K x := by rw [hwd]; exact F0.out.drew
      clear hwd F0 hrd
      have L1 := Lib.hid F1.state.at0
      have L2 := Lib.hid (show HAt wd g 1 .u8 (ek K 0) from F1.ciph.key 0 (by omega))
      have lx := hx.1
      have lk := k0.1
      have lz := hz.1
      have F1 := Lib.hid F1
      generalize ek K 0 = key at *
      simp only [List.take_succ_cons, List.take_zero, List.drop_succ_cons, List.drop_zero]
      repeat (first | (with_reducible refine stillLoad o16 w.heap.size 0 x lx L1.out rfl ?_) | (with_reducible refine stillLoad o16 g 1 key lk L2.out rfl ?_) | still_step)
      refine wpStill_nil ?_
      go_wp2_with fail
      refine (C1.out _).mono ?_
      rintro e w1 ⟨rfl, hbel⟩
      have F2 := Lib.hid (F1.out.after lx hbel)
      clear hbel F1 L1 L2
      go_wp2_with (first | (with_reducible refine Arr.store o16 (w.heap.size + 1) (zs 16) z (length_zs _) F2.out.answer lz rfl rfl ?_) | fail)
      exact bodyPost_ret (v := .agg (na .u8 z)) (results_arr o16 rfl _ _ (w.heap.size + 1) z lz (F2.out.answer.put _ (by rw [lz, length_zs])) rfl) rfl ⟨by rw [HE.out], below_setCells (by omega) _ _ _ F2.out.below⟩
end Go.Proofs.YtdjknmnmacppdaaDoor
