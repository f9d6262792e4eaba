/-
  The contract of gf.Double.
-/
import Derived.Test.YtaibegafoncddaaBlock
import Derived.Test.YtaibegafoncddaaGfFns
namespace Go.Proofs.Ytaibegafoncddaa
open Go.RowKit Gf

/-- What byte i of a block is when all its bits are one place up. -/
def up (l : List Nat) (i : Nat) : Nat := 2 * l.getD i 0 % 256 + (if i = 0 then 0 else l.getD (i - 1) 0 / 128)
/-- The first k bytes done. -/
def st (l : List Nat) : Nat → List Nat
  | 0 => l
  | k + 1 => (st l k).set k (up l k)
theorem length_st (l : List Nat) (k : Nat) : (st l k).length = l.length := by
  induction k with
  | zero => rfl
  | succ k ih => simp [st, ih]
theorem getD_set (l : List Nat) (k c i : Nat) (hk : k < l.length) : (l.set k c).getD i 0 = if i = k then c else l.getD i 0 := by
  by_cases h : i = k
  · subst h; simp [hk]
  · simp [h, List.getElem?_set_ne (fun e => h e.symm)]
theorem st_get (l : List Nat) (hl : l.length = 16) (k : Nat) (hk : k ≤ 16) (i : Nat) : (st l k).getD i 0 = if i < k then up l i else l.getD i 0 := by
  induction k with
  | zero => simp [st]
  | succ k ih =>
    simp only [st]
    rw [getD_set _ _ _ _ (by rw [length_st, hl]; omega), ih (by omega)]
    by_cases h : i = k
    · subst h; simp
    · rw [if_neg h]
      by_cases h2 : i < k
      · rw [if_pos h2, if_pos (by omega)]
      · rw [if_neg h2, if_neg (by omega)]
/-- A block, doubled. -/
def dbl (l : List Nat) : List Nat := if l.getD 15 0 / 128 = 1 then (st l 16).set 0 ((st l 16).getD 0 0 ^^^ 135) else st l 16
theorem length_dbl (l : List Nat) (hl : l.length = 16) : (dbl l).length = 16 := by unfold dbl; split <;> simp [length_st, hl]
/-- All are bytes. -/
def Bytes (l : List Nat) : Prop := ∀ i, l.getD i 0 < 256
theorem up_lt (l : List Nat) (hb : Bytes l) (i : Nat) : up l i < 256 := by
  unfold up
  have := hb (i - 1)
  split <;> omega
theorem dbl_get (l : List Nat) (hl : l.length = 16) (i : Nat) (hi : i < 16) : (dbl l).getD i 0 = if i = 0 ∧ l.getD 15 0 / 128 = 1 then up l 0 ^^^ 135 else up l i := by
  have e : ∀ j, j < 16 → (st l 16).getD j 0 = up l j := fun j hj => by rw [st_get l hl 16 (by omega), if_pos hj]
  unfold dbl
  split
  · next h =>
    rw [getD_set _ _ _ _ (by rw [length_st, hl]; omega), e 0 (by omega), e i hi]
    by_cases h0 : i = 0
    · rw [if_pos h0, if_pos ⟨h0, h⟩]
    · rw [if_neg h0, if_neg (fun x => h0 x.1)]
  · next h => rw [e i hi, if_neg (fun x => h x.2)]
theorem getD_out (l : List Nat) (i : Nat) (h : l.length ≤ i) : l.getD i 0 = 0 := by simp [List.getElem?_eq_none h]
theorem dbl_bytes (l : List Nat) (hl : l.length = 16) (hb : Bytes l) : Bytes (dbl l) := by
  intro i
  by_cases hi : i < 16
  · rw [dbl_get l hl i hi]
    split
    · exact xor_lt (up_lt l hb 0) (by omega)
    · exact up_lt l hb i
  · rw [getD_out _ _ (by rw [length_dbl l hl]; omega)]; omega
/-- n times. -/
def dblN (l : List Nat) : Nat → List Nat
  | 0 => l
  | n + 1 => dbl (dblN l n)
theorem dblN_ok (l : List Nat) (hl : l.length = 16) (hb : Bytes l) (n : Nat) : (dblN l n).length = 16 ∧ Bytes (dblN l n) := by
  induction n with
  | zero => exact ⟨hl, hb⟩
  | succ n ih => exact ⟨length_dbl _ ih.1, dbl_bytes _ ih.1 ih.2⟩

theorem or_low (v c : Nat) (hc : c < 2) : bits .or .u8 ((v : Int) * 2 % 256) (c : Int) = ((2 * v % 256 + c : Nat) : Int) := by
  have e1 : ((v : Int) * 2 % 256) = ((2 * v % 256 : Nat) : Int) := by omega
  have h1 : 2 * v % 256 < 256 := Nat.mod_lt _ (by omega)
  rw [e1, u8_or_nat _ _ h1 (by omega)]
  have e2 : 2 * v % 256 = 2 ^ 1 * (v % 128) := by omega
  rw [e2, ← Nat.two_pow_add_eq_or_of_lt (show c < 2 ^ 1 by omega)]
/-- The bit that goes on into byte k. -/
def car (l : List Nat) (k : Nat) : Nat := if k = 0 then 0 else l.getD (k - 1) 0 / 128

set_option maxHeartbeats 1000000 in
theorem double_any (l : List Nat) (hl : l.length = 16) (hb : Bytes l) (w : World) : Calls Try.prog 13 #[.agg (blk l)] w fun e w' => e = .returned (.agg (blk (dbl l))) ∧ Below w.heap.size w w' := by
  have B1 := Lib.hid ((Blk.new w l hl).alloc (.cells (blk zeros) 29))
  have B2 := Lib.hid (Blk.new (w.alloc (.cells (blk l) 29)) zeros rfl)
  have B3 := Lib.hid (((Below.refl w.heap.size w).alloc (Nat.le_refl _) (.cells (blk l) 29)).alloc (by simp) (.cells (blk zeros) 29))
  rw [blk_zeros] at B1 B2 B3
  rw [World.size_alloc] at B2
  go_enter Try.func13, Try.ntmps13
  go_wp2_with (with_reducible refine load_blk w.heap.size l B1.out rfl ?_)
  go_loopw [3, 7] (fun c i wr => ∃ k : Nat, k ≤ 16 ∧ i = .int .i64 (k : Nat) ∧ c = .int .u8 (car l k : Nat) ∧ Blk wr w.heap.size (st l k) ∧ Blk wr (w.heap.size + 1) zeros ∧ Below w.heap.size w wr) (fun _ i _ => 16 - (intOf i).toNat)
  case atStart => exact ⟨0, by omega, rfl, rfl, B1.out, B2.out, B3.out⟩
  case round =>
    clear B1 B2 B3
    obtain ⟨k, hk, rfl, rfl, h1, h2, h3⟩ := hrel
    have H1 := Lib.hid h1; clear h1
    have H2 := Lib.hid h2; clear h2
    have H3 := Lib.hid h3; clear h3
    by_cases hlt : k < 16
    · have hc := H1.out.cell k hlt
      have hf := H1.out.frozen k hlt
      have hg := index_blk wr l hl k hlt
      have hv := hb k
      have hcar : car l k < 2 := by unfold car; have := hb (k - 1); split <;> omega
      have hor := or_low (l.getD k 0) (car l k) hcar
      have HC := Lib.hid (show car l (k + 1) = l.getD k 0 / 128 by simp [car])
      have HS := Lib.hid (show st l (k + 1) = (st l k).set k (2 * l.getD k 0 % 256 + car l k) from rfl)
      generalize (st l k).getD k 0 = old at *
      generalize hu : 2 * l.getD k 0 % 256 + car l k = u at *
      clear hu
      generalize l.getD k 0 = v at *
      generalize car l k = c at *
      go_wp2
      go_roundw
      case rel => exact ⟨k + 1, by omega, by go_num, by rw [HC.out]; go_num, by rw [HS.out]; exact H1.out.set k u hlt, H2.out.beside _ _ (by simp), H3.out.setCell (Nat.le_refl _) _⟩
      case measure => simp [intOf]; omega
    · obtain rfl : k = 16 := by omega
      have hcar : car l 16 < 2 := by show l.getD 15 0 / 128 < 2; have := hb 15; omega
      have HD := Lib.hid (show dbl l = if car l 16 = 1 then (st l 16).set 0 ((st l 16).getD 0 0 ^^^ 135) else st l 16 from rfl)
      have hD := length_dbl l hl
      rcases (show car l 16 = 0 ∨ car l 16 = 1 by omega) with h0 | h0
      · have HD := HD.out
        rw [h0, if_neg (by omega)] at HD
        have HD := Lib.hid HD
        rw [h0]
        clear h0 hcar
        rw [← HD.out] at H1
        go_wp2_with (first | (with_reducible refine load_blk w.heap.size (dbl l) H1.out rfl ?_) | (with_reducible refine store_blk (w.heap.size + 1) zeros (dbl l) H2.out hD rfl rfl ?_))
        exact bodyPost_ret (v := .agg (blk (dbl l))) (results_blk rfl _ _ (w.heap.size + 1) (dbl l) (H2.out.put _ hD) rfl) rfl ⟨rfl, Below.setCells (by omega) _ _ _ H3.out⟩
      · have HD := HD.out
        rw [if_pos h0] at HD
        have hx : (st l 16).getD 0 0 < 256 := by rw [st_get l hl 16 (by omega) 0, if_pos (by omega)]; exact up_lt l hb 0
        have hxor : bits .xor .u8 (((st l 16).getD 0 0 : Nat) : Int) 135 = (((st l 16).getD 0 0 ^^^ 135 : Nat) : Int) := u8_xor_nat _ 135 hx (by omega)
        have hc0 := H1.out.cell 0 (by omega)
        have hf0 := H1.out.frozen 0 (by omega)
        have N1 := H1.out.set 0 ((st l 16).getD 0 0 ^^^ 135) (by omega)
        rw [← HD] at N1
        have HD := Lib.hid HD
        rw [h0]
        clear h0 hcar
        generalize (st l 16).getD 0 0 ^^^ 135 = y at *
        have hyi : (0 : Int) ≤ (y : Int) := by omega
        generalize (st l 16).getD 0 0 = x at *
        have N1 := Lib.hid N1
        have N2 := Lib.hid (H2.out.beside ⟨w.heap.size, 0, none⟩ (.int .u8 (y : Int)) (by simp))
        have N3 := Lib.hid (H3.out.setCell (p := ⟨w.heap.size, 0, none⟩) (Nat.le_refl _) (.int .u8 (y : Int)))
        go_wp2_with (first | (with_reducible refine load_blk w.heap.size (dbl l) N1.out rfl ?_) | (with_reducible refine store_blk (w.heap.size + 1) zeros (dbl l) N2.out hD rfl rfl ?_))
        exact bodyPost_ret (v := .agg (blk (dbl l))) (results_blk rfl _ _ (w.heap.size + 1) (dbl l) (N2.out.put _ hD) rfl) rfl ⟨rfl, Below.setCells (by omega) _ _ _ N3.out⟩

/-- What a call that hands a block back leaves. -/
def Gives (m : List Nat) (w : World) (e : Ending) (w' : World) : Prop := e = .returned (.agg (blk m)) ∧ Below w.heap.size w w'

theorem doubled_out (l : List Nat) (hl : l.length = 16) (n : Int) (hn : n < 0 ∨ 65536 < n) (w : World) : Calls Try.prog 15 #[.agg (blk l), .int .i64 n] w (Gives l w) := by
  have B1 := Lib.hid ((Blk.new w l hl).alloc (.cells (blk zeros) 29))
  have B2 := Lib.hid (Blk.new (w.alloc (.cells (blk l) 29)) zeros rfl)
  have B3 := Lib.hid (((Below.refl w.heap.size w).alloc (Nat.le_refl _) (.cells (blk l) 29)).alloc (by simp) (.cells (blk zeros) 29))
  rw [blk_zeros] at B1 B2 B3
  rw [World.size_alloc] at B2
  rcases hn with hn | hn
  · have t1 : decide (n < 0) = true := by simp; omega
    go_enter Try.func15, Try.ntmps15
    go_wp2_with (first | (with_reducible refine load_blk w.heap.size l B1.out rfl ?_) | (with_reducible refine store_blk (w.heap.size + 1) zeros l B2.out hl rfl rfl ?_))
    exact bodyPost_ret (v := .agg (blk l)) (results_blk rfl _ _ (w.heap.size + 1) l (B2.out.put _ hl) rfl) rfl ⟨rfl, Below.setCells (by omega) _ _ _ B3.out⟩
  · have t1 : decide (n < 0) = false := by simp; omega
    have t2 : decide (65536 < n) = true := by simp; omega
    go_enter Try.func15, Try.ntmps15
    go_wp2_with (first | (with_reducible refine load_blk w.heap.size l B1.out rfl ?_) | (with_reducible refine store_blk (w.heap.size + 1) zeros l B2.out hl rfl rfl ?_))
    exact bodyPost_ret (v := .agg (blk l)) (results_blk rfl _ _ (w.heap.size + 1) l (B2.out.put _ hl) rfl) rfl ⟨rfl, Below.setCells (by omega) _ _ _ B3.out⟩

set_option maxHeartbeats 1000000 in
theorem doubled_in (l : List Nat) (hl : l.length = 16) (hb : Bytes l) (n : Nat) (hn : n ≤ 65536) (w : World) : Calls Try.prog 15 #[.agg (blk l), .int .i64 (n : Int)] w (Gives (dblN l n) w) := by
  have B1 := Lib.hid ((Blk.new w l hl).alloc (.cells (blk zeros) 29))
  have B2 := Lib.hid (Blk.new (w.alloc (.cells (blk l) 29)) zeros rfl)
  have B3 := Lib.hid (((Below.refl w.heap.size w).alloc (Nat.le_refl _) (.cells (blk l) 29)).alloc (by simp) (.cells (blk zeros) 29))
  rw [blk_zeros] at B1 B2 B3
  rw [World.size_alloc] at B2
  have t1 : decide ((n : Int) < 0) = false := by simp
  have t2 : decide (65536 < (n : Int)) = false := by simp; omega
  go_enter Try.func15, Try.ntmps15
  go_wp2
  go_loopw [13] (fun i wr => ∃ k : Nat, k ≤ n ∧ i = .int .i64 (k : Nat) ∧ Blk wr w.heap.size (dblN l k) ∧ Blk wr (w.heap.size + 1) zeros ∧ Below w.heap.size w wr) (fun i _ => n - (intOf i).toNat)
  case atStart => exact ⟨0, by omega, rfl, B1.out, B2.out, B3.out⟩
  case round =>
    clear B1 B2 B3
    obtain ⟨k, hk, rfl, h1, h2, h3⟩ := hrel
    have H1 := Lib.hid h1; clear h1
    have H2 := Lib.hid h2; clear h2
    have H3 := Lib.hid h3; clear h3
    obtain ⟨hL, hB⟩ := dblN_ok l hl hb k
    by_cases hlt : k < n
    · have HC := Lib.hid (double_any (dblN l k) hL hB wr)
      have hM := length_dbl _ hL
      have HS := Lib.hid (show dblN l (k + 1) = dbl (dblN l k) from rfl)
      generalize dbl (dblN l k) = m at *
      go_wp2_with (first | (with_reducible refine load_blk w.heap.size (dblN l k) H1.out rfl ?_) | fail)
      refine HC.out.mono ?_
      rintro e w1 ⟨rfl, hbel⟩
      have N1 := Lib.hid (H1.out.below hbel H1.out.lt)
      have N2 := Lib.hid (H2.out.below hbel H2.out.lt)
      have N3 := Lib.hid (H3.out.trans (hbel.mono H3.out.size))
      clear hbel
      go_wp2_with (first | (with_reducible refine store_blk w.heap.size (dblN l k) m N1.out hM rfl rfl ?_) | fail)
      go_roundw
      case rel => exact ⟨k + 1, by omega, by go_num, by rw [HS.out]; exact N1.out.put m hM, N2.out.apart _ _ _ (by omega), Below.setCells (Nat.le_refl _) _ _ _ N3.out⟩
      case measure => simp [intOf]; omega
    · obtain rfl : k = n := by omega
      go_wp2_with (first | (with_reducible refine load_blk w.heap.size (dblN l k) H1.out rfl ?_) | (with_reducible refine store_blk (w.heap.size + 1) zeros (dblN l k) H2.out hL rfl rfl ?_))
      exact bodyPost_ret (v := .agg (blk (dblN l k))) (results_blk rfl _ _ (w.heap.size + 1) (dblN l k) (H2.out.put _ hL) rfl) rfl ⟨rfl, Below.setCells (by omega) _ _ _ H3.out⟩
end Go.Proofs.Ytaibegafoncddaa
