/-
  The contract of the laws' own first look (the chapter's example): it answers true, and leaves what was there. Condition: the table of widths stands in its variable.
-/
import Derived.Test.YtkpifmnojmenaaaDoorAesNew
import Derived.Test.YtkpifmnojmenaaaDoorAesEx
namespace Go.Proofs.YtkpifmnojmenaaaDoor
open Go.RowKit Arr Gf Sb Ae

/-- The call answers the bool, and what was there is as it was. -/
def Ret (b : Bool) (w : World) (e : Ending) (w' : World) : Prop := e = .returned (.bool b) ∧ Below w.heap.size w w'
theorem bys_of_holds {w : World} {g : Nat} {l : List Nat} (h : Holds w g .u8 l) (hl : 0 < l.length) (hb : ∀ x, x ∈ l → x < 256) : Bys w w.heap.size (some ⟨g, 0, none⟩) l :=
  ⟨hb, fun _ => ⟨g, 0, rfl, h.lt hl, fun i hi => by rw [Nat.zero_add]; exact h.cell i hi⟩⟩

set_option maxHeartbeats 4000000 in
set_option maxRecDepth 10000 in
theorem awake_any (w : World) (ht : Tab w 0) : Calls Tryd.prog 6 #[] w (Ret true w) := by
  obtain ⟨A1, A2, A3⟩ := two_new w (zs 16) 32
  have B1 := Lib.hid A1
  have B2 := Lib.hid A2
  have B3 := Lib.hid A3
  have HT := Lib.hid ht
  have htw := ht.lt
  clear A1 A2 A3 ht
  go_enter Tryd.func6, Tryd.ntmps6
  go_wp2_with (first | (with_reducible refine Arr.alloc (t := 32) _ z16 ?_) | fail)
  generalize (w.alloc (.cells (na .u8 (zs 16)) 32)).alloc (.cells (na .u8 (zs 16)) 32) = w0 at *
  go_loopw [7] (fun i wr => ∃ k : Nat, k ≤ 16 ∧ i = .int .i64 (k : Nat) ∧ Holds wr w.heap.size .u8 (upto (fun i => i) (fun _ => 0) 16 k) ∧ Holds wr (w.heap.size + 1) .u8 (upto (fun i => 17 * i) (fun _ => 0) 16 k) ∧ Below w.heap.size w wr) (fun i _ => 16 - (intOf i).toNat)
  case atStart => exact ⟨0, by omega, rfl, by rw [upto_noughts]; exact B1.out, by rw [upto_noughts]; exact B2.out, B3.out⟩
  case round =>
    clear B1 B2 B3
    obtain ⟨k, hk, rfl, h1, h2, h3⟩ := hrel
    have H1 := Lib.hid h1
    have H2 := Lib.hid h2
    have H3 := Lib.hid h3
    clear h1 h2 h3
    by_cases hlt : k < 16
    · have tk : decide ((k : Int) < 16) = true := by simp; omega
      have S1 := upto_succ (fun i => i) (fun _ => 0) 16 k hlt
      have S2 := upto_succ (fun i => 17 * i) (fun _ => 0) 16 k hlt
      have l1 := length_upto (fun i => i) (fun _ => 0) 16 k
      have l2 := length_upto (fun i => 17 * i) (fun _ => 0) 16 k
      generalize upto (fun i => i) (fun _ => 0) 16 k = u1 at *
      generalize upto (fun i => 17 * i) (fun _ => 0) 16 k = u2 at *
      obtain ⟨m, hm⟩ : ∃ m, m = 17 * k := ⟨_, rfl⟩
      have em : 17 * (k : Int) = (m : Int) := by omega
      have hm' : m < 256 := by omega
      rw [← hm] at S2
      have c1 := H1.out.cell k (by omega)
      have f1 := H1.out.frozen k (by omega)
      have c2 := H2.out.cell k (by omega)
      have f2 := H2.out.frozen k (by omega)
      have X1 := (H1.out.set k k (by omega)).beside ⟨w.heap.size + 1, k, none⟩ (.int .u8 (m : Int)) (show w.heap.size + 1 ≠ w.heap.size by omega)
      have X2 := (H2.out.beside ⟨w.heap.size, k, none⟩ (.int .u8 (k : Int)) (show w.heap.size ≠ w.heap.size + 1 by omega)).set k m (by omega)
      have X3 := (H3.out.setCell (p := ⟨w.heap.size, k, none⟩) (Nat.le_refl _) (.int .u8 (k : Int))).setCell (p := ⟨w.heap.size + 1, k, none⟩) (show w.heap.size ≤ w.heap.size + 1 by omega) (.int .u8 (m : Int))
      rw [← S1] at X1
      rw [← S2] at X2
      have X1 := Lib.hid X1
      have X2 := Lib.hid X2
      have X3 := Lib.hid X3
      have w1 : (k : Int) % 256 = (k : Int) := by omega
      have w2 : (m : Int) % 256 = (m : Int) := by omega
      clear S1 S2 hm
      generalize u1.getD k 0 = o1 at *
      generalize u2.getD k 0 = o2 at *
      go_wp2
      go_roundw
      case rel => exact ⟨k + 1, by omega, by go_num, X1.out, X2.out, X3.out⟩
      case measure => simp [intOf]; omega
    · obtain rfl : k = 16 := by omega
      have e1 : upto (fun i => i) (fun _ => 0) 16 16 = keyX := upto_all ..
      have e2 : upto (fun i => 17 * i) (fun _ => 0) 16 16 = blkX := upto_all ..
      rw [e1] at H1
      rw [e2] at H2
      have C1 := Lib.hid (new4 keyX keyX_len (some ⟨w.heap.size, 0, none⟩) 16 (by omega) wr (bys_of_holds H1.out (by rw [keyX_len]; omega) keyX_lt) (HT.out.below H3.out htw))
      have v0 := ex_at 0 _ (by omega) rfl
      have v1 := ex_at 1 _ (by omega) rfl
      have v2 := ex_at 2 _ (by omega) rfl
      have v3 := ex_at 3 _ (by omega) rfl
      have kk := keys_ok keyX 4 10 (by omega)
      have hx := st_enc kk st_blkX
      have C2 := Lib.hid (fun g w' h => encrypt_any g 10 (by omega) (by omega) (keysOf keyX 4) blkX kk st_blkX w' h)
      have lb := st_blkX.1
      generalize enc 10 (keysOf keyX 4) blkX = x at *
      clear e1 e2
      go_wp2_with fail
      refine C1.out.mono ?_
      rintro e w1 ⟨g, rfl, hC, hge, hbel⟩
      have N2 := Lib.hid (H2.out.below hbel (H2.out.lt (by rw [lb]; omega)))
      have N3 := Lib.hid (H3.out.trans (hbel.mono H3.out.size))
      have HC := Lib.hid hC
      clear hbel hC H1 H2 H3 C1
      generalize blkX = b at *
      go_wp2_with (first | (with_reducible refine Arr.load o16 (w.heap.size + 1) b lb N2.out rfl ?_) | fail)
      refine (C2.out g _ HC.out).mono ?_
      rintro e w2 ⟨rfl, hbel⟩
      have M3 := Lib.hid (N3.out.trans (hbel.mono N3.out.size))
      have lx := hx.1
      have N0 := Holds.new w2 32 .u8 (zs 16)
      have N4 := N0.put x (by rw [lx, length_zs])
      have N5 := Lib.hid (below_setCells (b := w2.heap.size) M3.out.size (nv .u8 x) 0 _ (M3.out.alloc M3.out.size (.cells (na .u8 (zs 16)) 32)))
      have N0 := Lib.hid N0
      have c0 := N4.cell 0 (by omega)
      have c1 := N4.cell 1 (by omega)
      have c2 := N4.cell 2 (by omega)
      have c3 := N4.cell 3 (by omega)
      rw [v0] at c0
      rw [v1] at c1
      rw [v2] at c2
      rw [v3] at c3
      clear hbel N2 N3 HC C2 v0 v1 v2 v3 N4
      go_wp2_with (first | (with_reducible refine Arr.alloc (t := 32) _ z16 ?_) | (with_reducible refine Arr.store o16 w2.heap.size (zs 16) x (length_zs _) N0.out lx rfl rfl ?_) | fail)
      go_ret
      exact ⟨rfl, N5.out⟩
end Go.Proofs.YtkpifmnojmenaaaDoor
