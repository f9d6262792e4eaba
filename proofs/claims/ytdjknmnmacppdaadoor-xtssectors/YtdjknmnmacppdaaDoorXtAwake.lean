/-
  The laws' own key, their first look (the chapter's example), and whether a key may be. Condition: the table of widths stands in its variable.
-/
import Derived.Test.YtdjknmnmacppdaaDoorXtEncAll
import Derived.Test.YtdjknmnmacppdaaDoorSame
namespace Go.Proofs.YtdjknmnmacppdaaDoor
open Go.RowKit Arr Gf Sb Ae Xt

/-- The call answers the bool, and what was there is as it was. -/
def Ret (b : Bool) (w : World) (e : Ending) (w' : World) : Prop := e = .returned (.bool b) ∧ Below w.heap.size w w'
theorem run_mk32 (W : World) : (Instr.makeSlice 22 (.int .i64 32) (.int .i64 32)).run Tryd.prog W = .ok (.slice (some ⟨W.heap.size, 0, none⟩) 32 32) (W.alloc (.cells (na .u8 (zs 32)) 5)) := run_mk 32 (by omega) W
theorem key_set : (zs 32).set 0 1 = keyL := by decide

theorem key_any (w : World) : Calls Tryd.prog 15 #[] w fun e w' => ∃ g, e = .returned (.slice (some ⟨g, 0, none⟩) 32 32) ∧ Bys w' w'.heap.size (some ⟨g, 0, none⟩) keyL ∧ Below w.heap.size w w' := by
  have hmk := run_mk32 w
  have H0 := Holds.new w 5 .u8 (zs 32)
  have c0 := H0.cell 0 (by rw [length_zs]; omega)
  have f0 := H0.frozen 0 (by rw [length_zs]; omega)
  have e : ((nv .u8 (zs 32)).set 0 (.int .u8 1)).toArray = na .u8 keyL := by rw [← key_set, na, nv_set]; rfl
  have E := Lib.hid e
  have X0 := Lib.hid (bysOf (Holds.new w 5 .u8 keyL) keyL_lt)
  have X1 := Lib.hid (below_alloc w (.cells (na .u8 keyL) 5))
  clear e H0
  generalize (zs 32).getD 0 0 = old at *
  go_enter Tryd.func15, Tryd.ntmps15
  go_wp2
  go_ret
  rw [E.out]
  exact ⟨_, rfl, X0.out, X1.out⟩

set_option maxHeartbeats 1000000 in
theorem awake_any (w : World) (ht : Tab w 0) : Calls Tryd.prog 6 #[] w (Ret true w) := by
  have CK := Lib.hid (key_any w)
  have HT := Lib.hid ht
  have htw := ht.lt
  have MK := Lib.hid run_mk32
  have HNE := Lib.hid ex_ne
  have hlen := ex_len
  have CE := Lib.hid (fun (g g1 g2 : Nat) (w' : World) (h : Sec w' g g1 g2 keyL) (A : Option Addr) (hb : Bys w' w'.heap.size A (zs 32)) => by
    have := xEncrypt_any (c := 32) h ok_keyL 5 (Nat.le_refl _) (length_zs 32) hb
    rw [ex_ok] at this
    exact this)
  generalize xL (enc (rr (ka keyL)) (kk (ka keyL))) keyL 5 (zs 32) = o at *
  clear ht
  go_enter Tryd.func6, Tryd.ntmps6
  go_wp2_with fail
  refine CK.out.mono ?_
  rintro e w1 ⟨gk, rfl, hbk, hb1⟩
  have CN := Lib.hid (xnew_ok (c := 32) keyL_len (.inl rfl) (Nat.le_refl _) hbk (HT.out.below hb1 htw))
  have B1 := Lib.hid hb1
  clear hbk hb1 CK
  go_wp2_with fail
  refine CN.out.mono ?_
  rintro e w2 ⟨g, g1, g2, rfl, hS, hb2⟩
  have HS := Lib.hid hS
  have B2 := Lib.hid (B1.out.trans (hb2.mono B1.out.size))
  clear hS hb2 CN B1
  have hmk := MK.out w2
  have B3 := Lib.hid (below_alloc w2 (.cells (na .u8 (zs 32)) 5))
  have C3 := Lib.hid (CE.out g g1 g2 _ (HS.out.below B3.out) (some ⟨w2.heap.size, 0, none⟩) (bysOf (Holds.new w2 5 .u8 (zs 32)) (fun x hx => by have := List.eq_of_mem_replicate hx; omega)))
  clear CE
  go_wp2_with fail
  refine C3.out.mono ?_
  rintro e w4 ⟨A, c, rfl, hc, hn, hy, hb4⟩
  rw [hlen] at hc ⊢
  have hmk4 := MK.out w4
  have B4 := Lib.hid (B2.out.trans ((B3.out.trans (hb4.mono B3.out.size)).mono B2.out.size))
  have HY := Lib.hid hy
  clear hmk hy hb4 C3 B3 MK
  have B5 := Lib.hid (below_alloc w4 (.cells (na .u8 (zs 32)) 5))
  have CS := Lib.hid (show Calls Tryd.prog 11 #[.slice A 32 c, .slice (some ⟨w4.heap.size, 0, none⟩) 32 32] (w4.alloc (.cells (na .u8 (zs 32)) 5)) (Ans false (w4.alloc (.cells (na .u8 (zs 32)) 5))) from by
    have := same_any A (some ⟨w4.heap.size, 0, none⟩) o (zs 32) 32 32 c 32 (w4.alloc (.cells (na .u8 (zs 32)) 5)) hlen (length_zs _) (by omega) _ _ (HY.out.below B5.out) (bysOf (Holds.new w4 5 .u8 (zs 32)) (fun x hx => by have := List.eq_of_mem_replicate hx; omega))
    rwa [decide_eq_false HNE.out] at this)
  go_wp2_with fail
  refine CS.out.mono ?_
  rintro e w5 ⟨nn, rfl, rfl⟩
  have HB := Lib.hid (B4.out.trans ((below_drewN B5.out nn).mono B4.out.size))
  clear hmk4
  go_wp2
  go_ret
  exact ⟨rfl, HB.out⟩

/-- May a key be? -/
theorem right_any (A : Option Addr) (n c : Nat) (w : World) : Calls Tryd.prog 8 #[.slice A n c] w fun e w' => e = .returned (.bool (decide (n = 32 ∨ n = 64))) ∧ w = w' := by
  by_cases h1 : n = 32
  · have hd : decide (n = 32 ∨ n = 64) = true := by simp [h1]
    have t1 : ((n : Int) == 32) = true := by simp; omega
    rw [hd]
    subst h1
    go_enter Tryd.func8, Tryd.ntmps8
    go_wp2
    go_ret
    exact ⟨rfl, rfl⟩
  · have t1 : ((n : Int) == 32) = false := by simp; omega
    by_cases h2 : n = 64
    · have hd : decide (n = 32 ∨ n = 64) = true := by simp [h2]
      have t2 : ((n : Int) == 64) = true := by simp; omega
      rw [hd]
      subst h2
      go_enter Tryd.func8, Tryd.ntmps8
      go_wp2
      go_ret
      exact ⟨rfl, rfl⟩
    · have hd : decide (n = 32 ∨ n = 64) = false := by simp [h1, h2]
      have t2 : ((n : Int) == 64) = false := by simp; omega
      rw [hd]
      clear hd
      go_enter Tryd.func8, Tryd.ntmps8
      go_wp2
      go_ret
      exact ⟨rfl, rfl⟩
theorem right_yes (A : Option Addr) (n c : Nat) (hk : okKey n) (w : World) : Calls Tryd.prog 8 #[.slice A n c] w fun e w' => e = .returned (.bool true) ∧ w = w' := by
  have := right_any A n c w
  rwa [decide_eq_true (show n = 32 ∨ n = 64 from hk)] at this
theorem right_no (A : Option Addr) (n c : Nat) (hk : ¬ okKey n) (w : World) : Calls Tryd.prog 8 #[.slice A n c] w fun e w' => e = .returned (.bool false) ∧ w = w' := by
  have := right_any A n c w
  rwa [decide_eq_false (show ¬ (n = 32 ∨ n = 64) from hk)] at this
end Go.Proofs.YtdjknmnmacppdaaDoor
