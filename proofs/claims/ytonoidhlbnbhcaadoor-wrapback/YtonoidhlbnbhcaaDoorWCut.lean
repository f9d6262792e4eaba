/-
  Contracts of bytes.Clone and word.Cut, for seats with W32. No conditions.
-/
import Derived.Test.YtonoidhlbnbhcaaDoorW32
import Derived.Test.YtonoidhlbnbhcaaDoorOwnBys
import Derived.Lib.SliceRun
import Derived.Deep.RegionWith
namespace Go.Proofs.YtonoidhlbnbhcaaDoor
open Go.RowKit

/-- What a call leaves that makes a slice of the bytes bs. -/
def Cloned (bs : List Nat) (n : Nat) (w : World) (e : Ending) (w' : World) : Prop :=
  ∃ A c, e = .returned (.slice A n c) ∧ (A = none → c = 0) ∧ Bys w' w'.heap.size A bs ∧ Below w.heap.size w w'

theorem owns_form {w : World} {base e n : Nat} {v : Value} {bs : List Nat} (h : w.ownsRow base e 1 v n (vals .u8 bs)) (hb : ∀ x, x ∈ bs → x < 256) (hv : v ≠ .slice none 0 0) :
    ∃ A c, v = .slice A n c ∧ (A = none → c = 0) ∧ Bys w w.heap.size A bs := by
  obtain ⟨A, c, rfl, hl, hb'⟩ := bys_of_owns h hb
  refine ⟨A, c, rfl, fun hA => ?_, hb'⟩
  subst hA
  rcases h.2 with ⟨h1, _⟩ | ⟨g, cap, cur, h1, _⟩
  · exact absurd h1 hv
  · cases h1

theorem clone_nil (n c : Nat) (bs : List Nat) (hl : bs.length = n) (w : World) (B : Nat) (hb : Bys w B none bs) :
    Calls Tryd.prog 44 #[.slice none n c] w (Cloned bs n w) := by
  have hbs : bs = [] := by
    rcases Nat.eq_zero_or_pos bs.length with h0 | h0
    · exact List.eq_nil_of_length_eq_zero h0
    · obtain ⟨_, _, he, _⟩ := hb.2 h0; cases he
  have HBS := Lib.hid hbs
  obtain rfl : n = 0 := by rw [← hl, hbs]; rfl
  have hnil := fun (wx : World) => Lib.run_eql_slice_nil (P := Tryd.prog) wx 22 5 none 0 c 0 0 Tryd.underlying22
  clear hb hbs hl
  go_enter Tryd.func44, Tryd.ntmps44
  go_wp2
  go_ret
  rw [HBS.out]
  exact ⟨none, 0, rfl, fun _ => rfl, Bys.nil _ _ _, Below.refl _ _⟩

theorem empty_owns (w : World) : (w.alloc (.cells #[] 5)).ownsRow w.heap.size 5 1 (.slice (some ⟨w.heap.size, 0, none⟩) 0 0) 0 (vals .u8 []) :=
  World.ownsRow_made w #[] 0 (Nat.le_refl _) (by unfold maxLen; omega) rfl

theorem clone_some (ad : Addr) (n c : Nat) (bs : List Nat) (hl : bs.length = n) (hn : n ≤ 4096) (w : World) (B : Nat) (hB : B ≤ w.heap.size) (hb : Bys w B (some ad) bs) :
    Calls Tryd.prog 44 #[.slice (some ad) n c] w (Cloned bs n w) := by
  have hnil := fun (wx : World) => Lib.run_eql_slice_nil (P := Tryd.prog) wx 22 5 (some ad) n c 0 0 Tryd.underlying22
  have HB := Lib.hid hb; clear hb
  have HL := Lib.hid hl; clear hl
  go_enter Tryd.func44, Tryd.ntmps44
  go_wp2_with (at_builtin; refine append_bys rfl (.tmp 5) (.tmp 6) 22 rfl w.heap.size 5 Tryd.underlying22 info_u8 (.slice (some ⟨w.heap.size, 0, none⟩) 0 0) 0 [] rfl (empty_owns w) (some ad) n c bs rfl (fun h => by cases h) HL.out B (HB.out.below ((Below.refl _ _).alloc hB _)) (by omega) (by simp) (by simp) ?_; intro v' w1 hown hv hbel)
  rw [List.nil_append, Nat.zero_add] at hown
  obtain ⟨A, c', rfl, hA, hb'⟩ := owns_form hown HB.out.1 hv
  have HY := Lib.hid hb'; clear hb' hown
  have HBE := Lib.hid (((Below.refl w.heap.size w).alloc (Nat.le_refl _) (.cells #[] 5)).trans hbel); clear hbel
  have HA := Lib.hid hA; clear hA hv
  go_wp2
  go_ret
  exact ⟨A, c', rfl, HA.out, HY.out, HBE.out⟩

/-- CLONE. -/
theorem clone_any (A : Option Addr) (n c : Nat) (bs : List Nat) (hl : bs.length = n) (hn : n ≤ 4096) (w : World) (B : Nat) (hB : B ≤ w.heap.size) (hb : Bys w B A bs) :
    Calls Tryd.prog 44 #[.slice A n c] w (Cloned bs n w) := by
  cases A with
  | none => exact clone_nil n c bs hl w B hb
  | some ad => exact clone_some ad n c bs hl hn w B hB hb

theorem Bys.take {w : World} {B : Nat} {A : Option Addr} {bs : List Nat} (h : Bys w B A bs) (k : Nat) : Bys w B A (bs.take k) := by
  refine ⟨fun x hx => h.1 x (List.mem_of_mem_take hx), fun hl => ?_⟩
  rw [List.length_take] at hl
  obtain ⟨b, off, e, hb, hc⟩ := h.2 (by omega)
  refine ⟨b, off, e, hb, fun i hi => ?_⟩
  rw [List.length_take] at hi
  have hik : i < k := by omega
  have hil : i < bs.length := by omega
  rw [hc i hil]
  simp [hik, hil]
/-- What is behind the first k bytes, at the address that the model gives it. -/
theorem Bys.behind {w : World} {B : Nat} {A : Option Addr} {bs : List Nat} (h : Bys w B A bs) (k cap : Nat) (hk : k ≤ bs.length) (hc : bs.length ≤ cap) :
    Bys w B (if cap = k then A else A.map (·.add (k * 1))) (bs.drop k) := by
  refine ⟨fun x hx => h.1 x (List.mem_of_mem_drop hx), fun hl => ?_⟩
  rw [List.length_drop] at hl
  obtain ⟨b, off, rfl, hb, hcell⟩ := h.2 (by omega)
  rw [if_neg (by omega)]
  have e : Addr.add ⟨b, off, none⟩ (k * 1) = ⟨b, off + k, none⟩ := by
    rw [Nat.mul_one]; unfold Addr.add; split <;> simp_all
  refine ⟨b, off + k, by simp only [Option.map_some, e], hb, fun i hi => ?_⟩
  rw [List.length_drop] at hi
  have := hcell (k + i) (by omega)
  rw [← Nat.add_assoc] at this
  rw [this]
  simp

def CutNone (w : World) (e : Ending) (w' : World) : Prop := e = .returned (.tuple #[.slice none 0 0, .slice none 0 0, .bool false]) ∧ w = w'
def CutSome (bs : List Nat) (k : Nat) (w : World) (e : Ending) (w' : World) : Prop :=
  ∃ A1 c1 A2 c2, e = .returned (.tuple #[.slice A1 k c1, .slice A2 (bs.length - k) c2, .bool true]) ∧ (A1 = none → c1 = 0) ∧ (A2 = none → c2 = 0) ∧
    Bys w' w'.heap.size A1 (bs.take k) ∧ Bys w' w'.heap.size A2 (bs.drop k) ∧ Below w.heap.size w w'

theorem Bys.eq {w : World} {B : Nat} {A : Option Addr} {bs cs : List Nat} (h : Bys w B A bs) (e : cs = bs) : Bys w B A cs := by rw [e]; exact h
theorem cutSome_mk {bs : List Nat} {k : Nat} {w w' : World} {e : Ending} (A1 : Option Addr) (c1 : Nat) (A2 : Option Addr) (c2 n2 : Nat) (hn : n2 = bs.length - k) (he : e = .returned (.tuple #[.slice A1 k c1, .slice A2 n2 c2, .bool true]))
    (h1 : A1 = none → c1 = 0) (h2 : A2 = none → c2 = 0) (h3 : Bys w' w'.heap.size A1 (bs.take k)) (h4 : Bys w' w'.heap.size A2 (bs.drop k)) (h5 : Below w.heap.size w w') : CutSome bs k w e w' := by
  subst hn
  exact ⟨A1, c1, A2, c2, he, h1, h2, h3, h4, h5⟩

theorem cut_neg (A : Option Addr) (len cap : Nat) (n : Int) (hn : n < 0) (w : World) : Calls Tryd.prog 22 #[.slice A len cap, .int .i64 n] w (CutNone w) := by
  have h1 : decide (n < 0) = true := by simp; omega
  go_enter Tryd.func22, Tryd.ntmps22
  go_wp2
  go_ret3
  exact ⟨rfl, rfl⟩
theorem cut_past (A : Option Addr) (len cap : Nat) (n : Int) (hn0 : 0 ≤ n) (hn : (len : Int) < n) (w : World) : Calls Tryd.prog 22 #[.slice A len cap, .int .i64 n] w (CutNone w) := by
  have h1 : decide (n < 0) = false := by simp; omega
  have h2 : decide ((len : Int) < n) = true := by simp; omega
  go_enter Tryd.func22, Tryd.ntmps22
  go_wp2
  go_ret3
  exact ⟨rfl, rfl⟩

theorem below_undrew {B : Nat} {w w' : World} (h : Below B w.drew w') : Below B w w' := ⟨h.os, h.tape, h.output, h.size, h.block⟩

set_option maxHeartbeats 1000000 in
theorem cut_end (A : Option Addr) (k : Nat) (bs : List Nat) (hl : bs.length = k) (hlen : k ≤ 4096) (w : World) (hb : Bys w w.heap.size A bs) :
    Calls Tryd.prog 22 #[.slice A k k, .int .i64 (k : Int)] w (CutSome bs k w) := by
  have h1 : decide ((k : Int) < 0) = false := by simp
  have h2 : decide ((k : Int) < (k : Int)) = false := by simp
  have HL := Lib.hid hl; clear hl
  have HB := Lib.hid hb; clear hb
  go_enter Tryd.func22, Tryd.ntmps22
  go_wp2
  go_region_with (first
    | (go_at_call_of 44 (Value.slice A k k); refine (clone_any A k k bs HL.out hlen _ w.heap.size ?_ ?_).mono ?_; exact Nat.le_refl _; exact HB.out; rintro e w1 ⟨A1, c1, rfl, hA1, hY1, hb1⟩)
    | (go_at_call_of 44 (Value.slice A 0 0); refine (clone_any A 0 0 [] rfl (by omega) _ 0 ?_ ?_).mono ?_; exact Nat.zero_le _; exact Bys.nil _ _ _; rintro e w2 ⟨A2, c2, rfl, hA2, hY2, hb2⟩))
  all_goals go_wp2
  all_goals go_ret3
  all_goals exact cutSome_mk A1 c1 A2 c2 0 (by have := HL.out; omega) rfl hA1 hA2 ((hY1.below hb2).more hb2.size |>.eq (by rw [List.take_of_length_le (by have := HL.out; omega)])) (hY2.eq (by rw [List.drop_of_length_le (by have := HL.out; omega)])) (below_undrew (hb1.trans (hb2.mono hb1.size)))

set_option maxHeartbeats 1000000 in
theorem cut_mid (ad : Addr) (len cap k : Nat) (bs : List Nat) (hl : bs.length = len) (hlen : len ≤ 4096) (hcap : len ≤ cap) (hk : k ≤ len) (hne : cap ≠ k) (w : World) (hb : Bys w w.heap.size (some ad) bs) :
    Calls Tryd.prog 22 #[.slice (some ad) len cap, .int .i64 (k : Int)] w (CutSome bs k w) := by
  have h1 : decide ((k : Int) < 0) = false := by simp
  have h2 : decide ((len : Int) < (k : Int)) = false := by simp; omega
  have hkl : (k : Int) ≤ (len : Int) := by omega
  have hkc : (k : Int) ≤ (cap : Int) := by omega
  have HL := Lib.hid hl; clear hl
  have HB := Lib.hid hb
  have HT := Lib.hid (hb.take k)
  have hD := hb.behind k cap (by have := HL.out; omega) (by have := HL.out; omega)
  rw [if_neg hne] at hD
  simp only [Option.map_some, Nat.mul_one] at hD
  have HD := Lib.hid hD
  clear hb hD
  go_enter Tryd.func22, Tryd.ntmps22
  go_wp2
  go_region_with (first
    | (go_at_call_of 44 (Value.slice (some ad) k cap); refine (clone_any (some ad) k cap (bs.take k) (by rw [List.length_take]; have := HL.out; omega) (by omega) _ w.heap.size ?_ ?_).mono ?_; exact Nat.le_refl _; exact HT.out; rintro e w1 ⟨A1, c1, rfl, hA1, hY1, hb1⟩)
    | (go_at_call_of 44 (Value.slice (some (ad.add k)) (len - k) (cap - k)); refine (clone_any (some (ad.add k)) (len - k) (cap - k) (bs.drop k) (by rw [List.length_drop, HL.out]) (by omega) _ w.heap.size ?_ ?_).mono ?_; exact hb1.size; exact HD.out.below (below_undrew hb1); rintro e w2 ⟨A2, c2, rfl, hA2, hY2, hb2⟩))
  all_goals go_wp2
  all_goals go_ret3
  all_goals exact cutSome_mk A1 c1 A2 c2 (len - k) (by rw [HL.out]) rfl hA1 hA2 ((hY1.below hb2).more hb2.size) hY2 (below_undrew (hb1.trans (hb2.mono hb1.size)))

/-- CUT, within. -/
theorem cut_some (A : Option Addr) (len cap k : Nat) (bs : List Nat) (hl : bs.length = len) (hlen : len ≤ 4096) (hcap : len ≤ cap) (hnil : A = none → cap = 0) (hk : k ≤ len) (w : World) (hb : Bys w w.heap.size A bs) :
    Calls Tryd.prog 22 #[.slice A len cap, .int .i64 (k : Int)] w (CutSome bs k w) := by
  by_cases hne : cap = k
  · obtain rfl : len = k := by omega
    obtain rfl : cap = len := hne
    exact cut_end A _ bs hl hlen w hb
  · cases A with
    | none => have := hnil rfl; omega
    | some ad => exact cut_mid ad len cap k bs hl hlen hcap hk hne w hb
end Go.Proofs.YtonoidhlbnbhcaaDoor
