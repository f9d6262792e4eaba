/-
  Contracts of field's failed and fail, number, fixed and counted. Conditions: the slices hold their bytes; the table of widths stands in its variable.
-/
import Derived.Test.YtoeboblkboillaaDoorFdNum
import Derived.Test.YtoeboblkboillaaDoorClone
import Derived.Test.YtoeboblkboillaaDoorCut
import Derived.Test.YtoeboblkboillaaDoorAppFoot
namespace Go.Proofs.YtoeboblkboillaaDoor
open Go.RowKit Arr Fld

section
variable {w : World} {g e : Nat}
theorem failed_no (h : w.cell? ⟨g, 0, none⟩ = some (.int .i64 0)) : Calls Tryd.prog 25 #[.pointer (some ⟨g, 0, none⟩)] w fun en w' => en = .returned (.bool false) ∧ w = w' := by
  go_enter Tryd.func25, Tryd.ntmps25
  go_wp2
  go_ret
  exact ⟨rfl, rfl⟩
theorem failed_yes (h : w.cell? ⟨g, 0, none⟩ = some (.int .i64 (e : Int))) (he : e ≠ 0) : Calls Tryd.prog 25 #[.pointer (some ⟨g, 0, none⟩)] w fun en w' => en = .returned (.bool true) ∧ w = w' := by
  have t1 : ((e : Int) != 0) = true := by simp; omega
  have HX := Lib.hid (show Ending.returned (Value.bool ((e : Int) != 0)) = .returned (.bool true) by rw [t1])
  go_enter Tryd.func25, Tryd.ntmps25
  go_wp2
  go_ret
  exact ⟨rfl, rfl⟩
/-- What fail leaves. -/
def FailP (w1 : World) (en : Ending) (w' : World) : Prop := en = .returned (.tuple #[]) ∧ w' = w1
theorem fail_no (h : w.cell? ⟨g, 0, none⟩ = some (.int .i64 0)) (hf : w.frozen? ⟨g, 0, none⟩ = false) (e : Nat) :
    Calls Tryd.prog 24 #[.pointer (some ⟨g, 0, none⟩), .int .i64 (e : Int)] w (FailP (w.setCell ⟨g, 0, none⟩ (.int .i64 (e : Int)))) := by
  have C := Lib.hid (failed_no h)
  go_enter Tryd.func24, Tryd.ntmps24
  go_wp2_with fail
  refine C.out.mono ?_
  rintro en w' ⟨rfl, rfl⟩
  go_wp2
  go_end0
  exact ⟨rfl, rfl⟩
theorem fail_yes (h : w.cell? ⟨g, 0, none⟩ = some (.int .i64 (e : Int))) (he : e ≠ 0) (v : Value) :
    Calls Tryd.prog 24 #[.pointer (some ⟨g, 0, none⟩), v] w (FailP w) := by
  have C := Lib.hid (failed_yes h he)
  clear h he
  go_enter Tryd.func24, Tryd.ntmps24
  go_wp2_with fail
  refine C.out.mono ?_
  rintro en w' ⟨rfl, rfl⟩
  go_wp2
  go_end0
  exact ⟨rfl, rfl⟩
end

/-- A number and an error, nothing else. -/
def NumPost (v e : Nat) (w : World) (en : Ending) (w' : World) : Prop := en = .returned (.tuple #[.int .i64 (v : Int), .int .i64 (e : Int)]) ∧ w = w'
section
variable {w : World} {A : Option Addr} {n c : Nat}
theorem number_end (size most : Int) (h : (n : Int) < size) : Calls Tryd.prog 29 #[.slice A n c, .int .i64 size, .int .i64 most] w (NumPost 0 10 w) := by
  have t1 : decide (size > (n : Int)) = true := by simp; omega
  go_enter Tryd.func29, Tryd.ntmps29
  go_wp2
  go_ret2
  exact ⟨rfl, rfl⟩
theorem number_low (size most : Int) (h : ¬ (n : Int) < size) (h1 : size < 1) : Calls Tryd.prog 29 #[.slice A n c, .int .i64 size, .int .i64 most] w (NumPost 0 2 w) := by
  have t1 : decide (size > (n : Int)) = false := by simp; omega
  have t2 : decide (size < 1) = true := by simp; omega
  go_enter Tryd.func29, Tryd.ntmps29
  go_wp2
  go_ret2
  exact ⟨rfl, rfl⟩
theorem number_high (size most : Int) (h : ¬ (n : Int) < size) (h1 : 8 < size) : Calls Tryd.prog 29 #[.slice A n c, .int .i64 size, .int .i64 most] w (NumPost 0 2 w) := by
  have t1 : decide (size > (n : Int)) = false := by simp; omega
  have t2 : decide (size < 1) = false := by simp; omega
  have t3 : decide (size > 8) = true := by simp; omega
  go_enter Tryd.func29, Tryd.ntmps29
  go_wp2
  go_ret2
  exact ⟨rfl, rfl⟩
theorem number_bad (s : Nat) (most : Int) (x v : Nat) (h : s ≤ n) (h1 : 1 ≤ s) (h8 : s ≤ 8) (hc : n ≤ c) (hx : x ≠ 0)
    (CG : Calls Tryd.prog 35 #[.slice (cutA A c 0) s c] w (GetPost v x w)) : Calls Tryd.prog 29 #[.slice A n c, .int .i64 (s : Int), .int .i64 most] w (NumPost 0 11 w) := by
  have C := Lib.hid CG
  have RL := run_cut_h A n c s (by omega)
  have t1 : decide ((s : Int) > (n : Int)) = false := by simp; omega
  have t2 : decide ((s : Int) < 1) = false := by simp; omega
  have t3 : decide ((s : Int) > 8) = false := by simp; omega
  have t4 : ((x : Int) != 0) = true := by simp; omega
  clear CG
  generalize cutA A c 0 = A' at *
  go_enter Tryd.func29, Tryd.ntmps29
  go_wp2_with fail
  refine C.out.mono ?_
  rintro en w' ⟨rfl, rfl⟩
  go_wp2
  go_ret2
  exact ⟨rfl, rfl⟩
theorem number_more (s : Nat) (most : Int) (v : Nat) (h : s ≤ n) (h1 : 1 ≤ s) (h8 : s ≤ 8) (hc : n ≤ c) (hx : most < (v : Int))
    (CG : Calls Tryd.prog 35 #[.slice (cutA A c 0) s c] w (GetPost v 0 w)) : Calls Tryd.prog 29 #[.slice A n c, .int .i64 (s : Int), .int .i64 most] w (NumPost 0 11 w) := by
  have C := Lib.hid CG
  have RL := run_cut_h A n c s (by omega)
  have t1 : decide ((s : Int) > (n : Int)) = false := by simp; omega
  have t2 : decide ((s : Int) < 1) = false := by simp; omega
  have t3 : decide ((s : Int) > 8) = false := by simp; omega
  have t4 : decide ((v : Int) > most) = true := by simp; omega
  clear CG
  generalize cutA A c 0 = A' at *
  go_enter Tryd.func29, Tryd.ntmps29
  go_wp2_with fail
  refine C.out.mono ?_
  rintro en w' ⟨rfl, rfl⟩
  go_wp2
  go_ret2
  exact ⟨rfl, rfl⟩
theorem number_ok (s : Nat) (most : Int) (v : Nat) (h : s ≤ n) (h1 : 1 ≤ s) (h8 : s ≤ 8) (hc : n ≤ c) (hx : ¬ most < (v : Int))
    (CG : Calls Tryd.prog 35 #[.slice (cutA A c 0) s c] w (GetPost v 0 w)) : Calls Tryd.prog 29 #[.slice A n c, .int .i64 (s : Int), .int .i64 most] w (NumPost v 0 w) := by
  have C := Lib.hid CG
  have RL := run_cut_h A n c s (by omega)
  have t1 : decide ((s : Int) > (n : Int)) = false := by simp; omega
  have t2 : decide ((s : Int) < 1) = false := by simp; omega
  have t3 : decide ((s : Int) > 8) = false := by simp; omega
  have t4 : decide ((v : Int) > most) = false := by simp; omega
  clear CG
  generalize cutA A c 0 = A' at *
  go_enter Tryd.func29, Tryd.ntmps29
  go_wp2_with fail
  refine C.out.mono ?_
  rintro en w' ⟨rfl, rfl⟩
  go_wp2
  go_ret2
  exact ⟨rfl, rfl⟩
end
/-- NUMBER. -/
theorem number_any (A : Option Addr) (bs : List Nat) (c : Nat) (size most : Int) (w : World) (B : Nat) (hc : bs.length ≤ c) (hb : Bys w B A bs) (ht : Tab w 0) :
    Calls Tryd.prog 29 #[.slice A bs.length c, .int .i64 size, .int .i64 most] w (NumPost (numV bs size most) (numE bs size most) w) := by
  by_cases h : (bs.length : Int) < size
  · have e : numE bs size most = 10 := by unfold numE; rw [if_pos h]
    have v : numV bs size most = 0 := by unfold numV; rw [e]; rfl
    rw [e, v]; exact number_end size most h
  · by_cases h1 : size < 1
    · have e : numE bs size most = 2 := by unfold numE; rw [if_neg h, if_pos (.inl h1)]
      have v : numV bs size most = 0 := by unfold numV; rw [e]; rfl
      rw [e, v]; exact number_low size most h h1
    · by_cases h8 : 8 < size
      · have e : numE bs size most = 2 := by unfold numE; rw [if_neg h, if_pos (.inr h8)]
        have v : numV bs size most = 0 := by unfold numV; rw [e]; rfl
        rw [e, v]; exact number_high size most h h8
      · obtain ⟨s, rfl⟩ := Int.eq_ofNat_of_zero_le (show 0 ≤ size by omega)
        have hl : (bs.take s).length = s := by rw [List.length_take]; omega
        have hcut := bys_cut hb c hc 0 s (Nat.zero_le _) (by omega)
        rw [List.drop_zero, Nat.sub_zero] at hcut
        have CG := get_any (cutA A c 0) s c (bs.take s) hl w B hcut ht
        by_cases hg : getE (bs.take s) = 0
        · have hn : getN (bs.take s) = num (bs.take s) := by unfold getN; rw [if_pos hg]
          rw [hg, hn] at CG
          by_cases hm : most < (num (bs.take s) : Int)
          · have e : numE bs (s : Int) most = 11 := by unfold numE; rw [Int.toNat_natCast, if_neg h, if_neg (by omega), if_pos (.inr hm)]
            have v : numV bs (s : Int) most = 0 := by unfold numV; rw [e]; rfl
            rw [e, v]; exact number_more s most _ (by omega) (by omega) (by omega) hc hm CG
          · have e : numE bs (s : Int) most = 0 := by unfold numE; rw [Int.toNat_natCast, if_neg h, if_neg (by omega), if_neg (by rw [hg]; omega)]
            have v : numV bs (s : Int) most = num (bs.take s) := by unfold numV; rw [if_pos e, Int.toNat_natCast]
            rw [e, v]; exact number_ok s most _ (by omega) (by omega) (by omega) hc hm CG
        · have e : numE bs (s : Int) most = 11 := by unfold numE; rw [Int.toNat_natCast, if_neg h, if_neg (by omega), if_pos (.inl hg)]
          have v : numV bs (s : Int) most = 0 := by unfold numV; rw [e]; rfl
          rw [e, v]; exact number_bad s most _ _ (by omega) (by omega) (by omega) hc hg CG

/-- v is a slice of the bytes bs, in a block from lo on. -/
def LiesF (w : World) (lo : Nat) (v : Value) (bs : List Nat) : Prop :=
  ∃ A c, v = .slice A bs.length c ∧ bs.length ≤ c ∧ (A = none → c = 0) ∧ Bys w w.heap.size A bs ∧ ∀ b, Option.map Addr.block A = some b → lo ≤ b
theorem LiesF.nil (w : World) (lo : Nat) : LiesF w lo (.slice none 0 0) [] := ⟨none, 0, rfl, Nat.le_refl _, fun _ => rfl, Bys.nil _ _ _, fun b h => by cases h⟩
theorem LiesF.only {w w' : World} {g lo : Nat} {v : Value} {bs : List Nat} (h : LiesF w lo v bs) (ho : Only g w w') (hg : g < lo) : LiesF w' lo v bs := by
  obtain ⟨A, c, h1, h2, h3, h4, h5⟩ := h
  refine ⟨A, c, h1, h2, h3, ⟨h4.1, fun hl => ?_⟩, h5⟩
  obtain ⟨b, off, rfl, hb, hc⟩ := h4.2 hl
  have hlo := h5 b rfl
  exact ⟨b, off, rfl, Nat.lt_of_lt_of_le hb ho.size, fun i hi => (ho.cell (p := ⟨b, off + i, none⟩) hb (show b ≠ g by omega)).trans (hc i hi)⟩
/-- Bytes, or none, and an error. -/
def GivesF (bs : List Nat) (e : Nat) (w : World) (en : Ending) (w' : World) : Prop :=
  ∃ v, en = .returned (.tuple #[v, .int .i64 (e : Int)]) ∧ LiesF w' w.heap.size v bs ∧ Below w.heap.size w w'

section
variable {w : World} {A : Option Addr} {bs : List Nat} {c : Nat}
theorem fixed_end (n : Int) (h : (bs.length : Int) < n) : Calls Tryd.prog 31 #[.slice A bs.length c, .int .i64 n] w (GivesF [] 10 w) := by
  have t1 : decide (n > (bs.length : Int)) = true := by simp; omega
  generalize bs.length = N at *
  go_enter Tryd.func31, Tryd.ntmps31
  go_wp2
  go_ret2
  exact ⟨_, rfl, LiesF.nil _ _, Below.refl _ _⟩
theorem fixed_low (n : Int) (h : n < 0) : Calls Tryd.prog 31 #[.slice A bs.length c, .int .i64 n] w (GivesF [] 2 w) := by
  have t1 : decide (n > (bs.length : Int)) = false := by simp; omega
  have t2 : decide (n < 0) = true := by simp; omega
  generalize bs.length = N at *
  go_enter Tryd.func31, Tryd.ntmps31
  go_wp2
  go_ret2
  exact ⟨_, rfl, LiesF.nil _ _, Below.refl _ _⟩
theorem fixed_ok (n : Nat) (h : n ≤ bs.length) (hs : bs.length ≤ 4294967296) (hc : bs.length ≤ c) (hb : Bys w w.heap.size A bs) :
    Calls Tryd.prog 31 #[.slice A bs.length c, .int .i64 (n : Int)] w (GivesF (bs.take n) 0 w) := by
  have hl : (bs.take n).length = n := by rw [List.length_take]; omega
  have hcut := bys_cut hb c hc 0 n (Nat.zero_le _) h
  rw [List.drop_zero, Nat.sub_zero] at hcut
  have C := Lib.hid (clone_anyN (cutA A c 0) n c (bs.take n) hl (by omega) w w.heap.size (Nat.le_refl _) hcut)
  have RL := run_cut_h A bs.length c n (by omega)
  have t1 : decide ((n : Int) > (bs.length : Int)) = false := by simp; omega
  have t2 : decide ((n : Int) < 0) = false := by simp
  have HL := Lib.hid hl
  clear hcut hl hb
  generalize bs.length = N at *
  generalize bs.take n = xs at *
  generalize cutA A c 0 = A' at *
  go_enter Tryd.func31, Tryd.ntmps31
  go_wp2_with fail
  refine C.out.mono ?_
  rintro en w1 ⟨A1, c1, rfl, hc1, hA1, hb1, hf1, hB1⟩
  have HP := Lib.hid (show GivesF xs 0 w (.returned (.tuple #[.slice A1 n c1, .int .i64 0])) w1 from
    ⟨_, rfl, ⟨A1, c1, by rw [HL.out], by rw [HL.out]; exact hc1, hA1, hb1, hf1⟩, hB1⟩)
  clear hc1 hA1 hb1 hf1 hB1 C RL
  go_wp2
  go_ret2
  exact HP.out
/-- FIXED. -/
theorem fixed_any (n : Int) (hs : bs.length ≤ 4294967296) (hc : bs.length ≤ c) (hb : Bys w w.heap.size A bs) :
    Calls Tryd.prog 31 #[.slice A bs.length c, .int .i64 n] w (GivesF (fixV bs n) (fixE bs n) w) := by
  by_cases h : (bs.length : Int) < n
  · have e : fixE bs n = 10 := by unfold fixE; rw [if_pos h]
    have v : fixV bs n = [] := by unfold fixV; rw [e]; rfl
    rw [e, v]; exact fixed_end n h
  · by_cases h1 : n < 0
    · have e : fixE bs n = 2 := by unfold fixE; rw [if_neg h, if_pos h1]
      have v : fixV bs n = [] := by unfold fixV; rw [e]; rfl
      rw [e, v]; exact fixed_low n h1
    · obtain ⟨m, rfl⟩ := Int.eq_ofNat_of_zero_le (show 0 ≤ n by omega)
      have e : fixE bs (m : Int) = 0 := by unfold fixE; rw [if_neg h, if_neg h1]
      have v : fixV bs (m : Int) = bs.take m := by unfold fixV; rw [if_pos e, Int.toNat_natCast]
      rw [e, v]; exact fixed_ok m (by omega) hs hc hb

end
end Go.Proofs.YtoeboblkboillaaDoor
