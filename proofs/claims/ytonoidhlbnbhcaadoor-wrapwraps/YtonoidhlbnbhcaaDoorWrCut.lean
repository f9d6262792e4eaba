/-
  Contracts of bytes.Clone and word.Cut once more, with what the slices' room is. No conditions.
-/
import Derived.Test.YtonoidhlbnbhcaaDoorOwnAll
namespace Go.Proofs.YtonoidhlbnbhcaaDoor
open Go.RowKit

/-- What a call leaves that makes a slice of the bytes bs; its room. -/
def ClonedC (bs : List Nat) (n : Nat) (w : World) (e : Ending) (w' : World) : Prop :=
  ∃ A c, e = .returned (.slice A n c) ∧ (A = none → c = 0) ∧ Bys w' w'.heap.size A bs ∧ Below w.heap.size w w' ∧ n ≤ c
theorem owns_room {w : World} {base e n c : Nat} {A : Option Addr} {xs : List Value} (h : w.ownsRow base e 1 (.slice A n c) n xs) : n ≤ c := by
  rcases h.2 with ⟨h1, h0⟩ | ⟨g, cap, cur, h1, _, _, h2, _⟩
  · simp only [Value.slice.injEq] at h1; omega
  · simp only [Value.slice.injEq] at h1; omega

theorem cloneC_nil (n c : Nat) (bs : List Nat) (hl : bs.length = n) (w : World) (B : Nat) (hb : Bys w B none bs) :
    Calls Tryd.prog 44 #[.slice none n c] w (ClonedC bs n w) := by
  have hbs : bs = [] := by
    rcases Nat.eq_zero_or_pos bs.length with h0 | h0
    · exact List.eq_nil_of_length_eq_zero h0
    · obtain ⟨_, _, he, _⟩ := hb.2 h0; cases he
  have HBS := Lib.hid hbs
  obtain rfl : n = 0 := by rw [← hl, hbs]; rfl
  have hnil := fun (wx : World) => Lib.run_eql_slice_nil (P := Tryd.prog) wx 22 5 none 0 c 0 0 Tryd.underlying22
  clear hb hbs hl
  go_enter Tryd.func44, Tryd.ntmps44
  go_wp2
  go_ret
  rw [HBS.out]
  exact ⟨none, 0, rfl, fun _ => rfl, Bys.nil _ _ _, Below.refl _ _, Nat.le_refl _⟩

theorem cloneC_some (ad : Addr) (n c : Nat) (bs : List Nat) (hl : bs.length = n) (hn : n ≤ 4096) (w : World) (B : Nat) (hB : B ≤ w.heap.size) (hb : Bys w B (some ad) bs) :
    Calls Tryd.prog 44 #[.slice (some ad) n c] w (ClonedC bs n w) := by
  have hnil := fun (wx : World) => Lib.run_eql_slice_nil (P := Tryd.prog) wx 22 5 (some ad) n c 0 0 Tryd.underlying22
  have HB := Lib.hid hb; clear hb
  have HL := Lib.hid hl; clear hl
  go_enter Tryd.func44, Tryd.ntmps44
  go_wp2_with (at_builtin; refine append_bys rfl (.tmp 5) (.tmp 6) 22 rfl w.heap.size 5 Tryd.underlying22 info_u8 (.slice (some ⟨w.heap.size, 0, none⟩) 0 0) 0 [] rfl (empty_owns w) (some ad) n c bs rfl (fun h => by cases h) HL.out B (HB.out.below ((Below.refl _ _).alloc hB _)) (by omega) (by simp) (by simp) ?_; intro v' w1 hown hv hbel)
  rw [List.nil_append, Nat.zero_add] at hown
  obtain ⟨A, c', rfl, hA, hb'⟩ := owns_form hown HB.out.1 hv
  have HR := Lib.hid (owns_room hown)
  have HY := Lib.hid hb'; clear hb' hown
  have HBE := Lib.hid (((Below.refl w.heap.size w).alloc (Nat.le_refl _) (.cells #[] 5)).trans hbel); clear hbel
  have HA := Lib.hid hA; clear hA hv
  go_wp2
  go_ret
  exact ⟨A, c', rfl, HA.out, HY.out, HBE.out, HR.out⟩

/-- CLONE. -/
theorem cloneC_any (A : Option Addr) (n c : Nat) (bs : List Nat) (hl : bs.length = n) (hn : n ≤ 4096) (w : World) (B : Nat) (hB : B ≤ w.heap.size) (hb : Bys w B A bs) :
    Calls Tryd.prog 44 #[.slice A n c] w (ClonedC bs n w) := by
  cases A with
  | none => exact cloneC_nil n c bs hl w B hb
  | some ad => exact cloneC_some ad n c bs hl hn w B hB hb

def CutC (bs : List Nat) (k : Nat) (w : World) (e : Ending) (w' : World) : Prop :=
  ∃ A1 c1 A2 c2, e = .returned (.tuple #[.slice A1 k c1, .slice A2 (bs.length - k) c2, .bool true]) ∧ (A1 = none → c1 = 0) ∧ (A2 = none → c2 = 0) ∧
    Bys w' w'.heap.size A1 (bs.take k) ∧ Bys w' w'.heap.size A2 (bs.drop k) ∧ Below w.heap.size w w' ∧ k ≤ c1 ∧ bs.length - k ≤ c2

theorem cutC_mk {bs : List Nat} {k : Nat} {w w' : World} {e : Ending} (A1 : Option Addr) (c1 : Nat) (A2 : Option Addr) (c2 n2 : Nat) (hn : n2 = bs.length - k) (he : e = .returned (.tuple #[.slice A1 k c1, .slice A2 n2 c2, .bool true]))
    (h1 : A1 = none → c1 = 0) (h2 : A2 = none → c2 = 0) (h3 : Bys w' w'.heap.size A1 (bs.take k)) (h4 : Bys w' w'.heap.size A2 (bs.drop k)) (h5 : Below w.heap.size w w') (h6 : k ≤ c1) (h7 : n2 ≤ c2) : CutC bs k w e w' := by
  subst hn
  exact ⟨A1, c1, A2, c2, he, h1, h2, h3, h4, h5, h6, h7⟩

set_option maxHeartbeats 1000000 in
theorem cutC_end (A : Option Addr) (k : Nat) (bs : List Nat) (hl : bs.length = k) (hlen : k ≤ 4096) (w : World) (hb : Bys w w.heap.size A bs) :
    Calls Tryd.prog 22 #[.slice A k k, .int .i64 (k : Int)] w (CutC bs k w) := by
  have h1 : decide ((k : Int) < 0) = false := by simp
  have h2 : decide ((k : Int) < (k : Int)) = false := by simp
  have HL := Lib.hid hl; clear hl
  have HB := Lib.hid hb; clear hb
  go_enter Tryd.func22, Tryd.ntmps22
  go_wp2
  go_region_with (first
    | (go_at_call_of 44 (Value.slice A k k); refine (cloneC_any A k k bs HL.out hlen _ w.heap.size ?_ ?_).mono ?_; exact Nat.le_refl _; exact HB.out; rintro e w1 ⟨A1, c1, rfl, hA1, hY1, hb1, hr1⟩)
    | (go_at_call_of 44 (Value.slice A 0 0); refine (cloneC_any A 0 0 [] rfl (by omega) _ 0 ?_ ?_).mono ?_; exact Nat.zero_le _; exact Bys.nil _ _ _; rintro e w2 ⟨A2, c2, rfl, hA2, hY2, hb2, hr2⟩))
  all_goals go_wp2
  all_goals go_ret3
  all_goals exact cutC_mk A1 c1 A2 c2 0 (by have := HL.out; omega) rfl hA1 hA2 ((hY1.below hb2).more hb2.size |>.eq (by rw [List.take_of_length_le (by have := HL.out; omega)])) (hY2.eq (by rw [List.drop_of_length_le (by have := HL.out; omega)])) (below_undrew (hb1.trans (hb2.mono hb1.size))) hr1 hr2

set_option maxHeartbeats 1000000 in
theorem cutC_mid (ad : Addr) (len cap k : Nat) (bs : List Nat) (hl : bs.length = len) (hlen : len ≤ 4096) (hcap : len ≤ cap) (hk : k ≤ len) (hne : cap ≠ k) (w : World) (hb : Bys w w.heap.size (some ad) bs) :
    Calls Tryd.prog 22 #[.slice (some ad) len cap, .int .i64 (k : Int)] w (CutC bs k w) := by
  have h1 : decide ((k : Int) < 0) = false := by simp
  have h2 : decide ((len : Int) < (k : Int)) = false := by simp; omega
  have hkl : (k : Int) ≤ (len : Int) := by omega
  have hkc : (k : Int) ≤ (cap : Int) := by omega
  have HL := Lib.hid hl; clear hl
  have HB := Lib.hid hb
  have HT := Lib.hid (hb.take k)
  have hD := hb.behind k cap (by have := HL.out; omega) (by have := HL.out; omega)
  rw [if_neg hne] at hD
  simp only [Option.map_some, Nat.mul_one] at hD
  have HD := Lib.hid hD
  clear hb hD
  go_enter Tryd.func22, Tryd.ntmps22
  go_wp2
  go_region_with (first
    | (go_at_call_of 44 (Value.slice (some ad) k cap); refine (cloneC_any (some ad) k cap (bs.take k) (by rw [List.length_take]; have := HL.out; omega) (by omega) _ w.heap.size ?_ ?_).mono ?_; exact Nat.le_refl _; exact HT.out; rintro e w1 ⟨A1, c1, rfl, hA1, hY1, hb1, hr1⟩)
    | (go_at_call_of 44 (Value.slice (some (ad.add k)) (len - k) (cap - k)); refine (cloneC_any (some (ad.add k)) (len - k) (cap - k) (bs.drop k) (by rw [List.length_drop, HL.out]) (by omega) _ w.heap.size ?_ ?_).mono ?_; exact hb1.size; exact HD.out.below (below_undrew hb1); rintro e w2 ⟨A2, c2, rfl, hA2, hY2, hb2, hr2⟩))
  all_goals go_wp2
  all_goals go_ret3
  all_goals exact cutC_mk A1 c1 A2 c2 (len - k) (by rw [HL.out]) rfl hA1 hA2 ((hY1.below hb2).more hb2.size) hY2 (below_undrew (hb1.trans (hb2.mono hb1.size))) hr1 hr2

/-- CUT, within. -/
theorem cutC_some (A : Option Addr) (len cap k : Nat) (bs : List Nat) (hl : bs.length = len) (hlen : len ≤ 4096) (hcap : len ≤ cap) (hnil : A = none → cap = 0) (hk : k ≤ len) (w : World) (hb : Bys w w.heap.size A bs) :
    Calls Tryd.prog 22 #[.slice A len cap, .int .i64 (k : Int)] w (CutC bs k w) := by
  by_cases hne : cap = k
  · obtain rfl : len = k := by omega
    obtain rfl : cap = len := hne
    exact cutC_end A _ bs hl hlen w hb
  · cases A with
    | none => have := hnil rfl; omega
    | some ad => exact cutC_mid ad len cap k bs hl hlen hcap hk hne w hb
end Go.Proofs.YtonoidhlbnbhcaaDoor
