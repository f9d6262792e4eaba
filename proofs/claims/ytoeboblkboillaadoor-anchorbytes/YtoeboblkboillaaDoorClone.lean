/-
  Contract of bytes.Clone, for any seat that calls it. No conditions but that the slice holds its bytes.
-/
import Derived.Test.YtoeboblkboillaaDoorChecked
import Derived.Test.YtoeboblkboillaaDoorOwnBys
import Derived.Lib.SliceRun
import Derived.Lib.Hide
import Derived.Outline
namespace Go.Proofs.YtoeboblkboillaaDoor
open Go.RowKit

theorem info_byte : (Tryd.prog.info? 5).map (fun i => (i.zero, i.size, i.bytes)) = some (some (.int .u8 0), 1, 1) := by kernel_rfl

/-- What a call leaves that makes a slice of the bytes bs. -/
def Cloned (bs : List Nat) (n : Nat) (w : World) (e : Ending) (w' : World) : Prop :=
  ∃ A c, e = .returned (.slice A n c) ∧ (A = none → c = 0) ∧ Bys w' w'.heap.size A bs ∧ Below w.heap.size w w'

theorem owns_form {w : World} {base e n : Nat} {v : Value} {bs : List Nat} (h : w.ownsRow base e 1 v n (vals .u8 bs)) (hb : ∀ x, x ∈ bs → x < 256) (hv : v ≠ .slice none 0 0) :
    ∃ A c, v = .slice A n c ∧ (A = none → c = 0) ∧ Bys w w.heap.size A bs := by
  obtain ⟨A, c, rfl, hl, hb'⟩ := bys_of_owns h hb
  refine ⟨A, c, rfl, fun hA => ?_, hb'⟩
  subst hA
  rcases h.2 with ⟨h1, _⟩ | ⟨g, cap, cur, h1, _⟩
  · exact absurd h1 hv
  · cases h1

/-- The same, and where the copy lies: in a block that is new, and its slice has room for what it holds. -/
def ClonedN (bs : List Nat) (n : Nat) (w : World) (e : Ending) (w' : World) : Prop :=
  ∃ A c, e = .returned (.slice A n c) ∧ n ≤ c ∧ (A = none → c = 0) ∧ Bys w' w'.heap.size A bs ∧ (∀ b, Option.map Addr.block A = some b → w.heap.size ≤ b) ∧ Below w.heap.size w w'
theorem ClonedN.old {bs : List Nat} {n : Nat} {w w' : World} {e : Ending} (h : ClonedN bs n w e w') : Cloned bs n w e w' := by
  obtain ⟨A, c, h1, _, h2, h3, _, h4⟩ := h
  exact ⟨A, c, h1, h2, h3, h4⟩

theorem owns_formN {w : World} {base e n : Nat} {v : Value} {bs : List Nat} (h : w.ownsRow base e 1 v n (vals .u8 bs)) (hb : ∀ x, x ∈ bs → x < 256) (hv : v ≠ .slice none 0 0) :
    ∃ A c, v = .slice A n c ∧ n ≤ c ∧ (A = none → c = 0) ∧ Bys w w.heap.size A bs ∧ ∀ b, Option.map Addr.block A = some b → base ≤ b := by
  obtain ⟨A, c, rfl, hA, hb'⟩ := owns_form h hb hv
  rcases h.2 with ⟨h1, _⟩ | ⟨g, cap, cur, h1, h2, h3, h4, _⟩
  · exact absurd h1 hv
  · simp only [Value.slice.injEq] at h1
    obtain ⟨rfl, _, rfl⟩ := h1
    refine ⟨_, _, rfl, h4, hA, hb', fun b hb => ?_⟩
    simp only [Option.map_some, Option.some.injEq] at hb
    omega

theorem clone_nilN (n c : Nat) (bs : List Nat) (hl : bs.length = n) (w : World) (B : Nat) (hb : Bys w B none bs) :
    Calls Tryd.prog 26 #[.slice none n c] w (ClonedN bs n w) := by
  have hbs : bs = [] := by
    rcases Nat.eq_zero_or_pos bs.length with h0 | h0
    · exact List.eq_nil_of_length_eq_zero h0
    · obtain ⟨_, _, he, _⟩ := hb.2 h0; cases he
  have HBS := Lib.hid hbs
  obtain rfl : n = 0 := by rw [← hl, hbs]; rfl
  have hnil := fun (wx : World) => Lib.run_eql_slice_nil (P := Tryd.prog) wx 22 5 none 0 c 0 0 Tryd.underlying22
  clear hb hbs hl
  go_enter Tryd.func26, Tryd.ntmps26
  go_wp2
  go_ret
  rw [HBS.out]
  exact ⟨none, 0, rfl, Nat.le_refl _, fun _ => rfl, Bys.nil _ _ _, fun b h => (by cases h), Below.refl _ _⟩

theorem empty_owns (w : World) : (w.alloc (.cells #[] 5)).ownsRow w.heap.size 5 1 (.slice (some ⟨w.heap.size, 0, none⟩) 0 0) 0 (vals .u8 []) :=
  World.ownsRow_made w #[] 0 (Nat.le_refl _) (by unfold maxLen; omega) rfl

theorem clone_someN (ad : Addr) (n c : Nat) (bs : List Nat) (hl : bs.length = n) (hn : n ≤ 4294967296) (w : World) (B : Nat) (hB : B ≤ w.heap.size) (hb : Bys w B (some ad) bs) :
    Calls Tryd.prog 26 #[.slice (some ad) n c] w (ClonedN bs n w) := by
  have hnil := fun (wx : World) => Lib.run_eql_slice_nil (P := Tryd.prog) wx 22 5 (some ad) n c 0 0 Tryd.underlying22
  have HB := Lib.hid hb; clear hb
  have HL := Lib.hid hl; clear hl
  go_enter Tryd.func26, Tryd.ntmps26
  go_wp2_with (at_builtin; refine append_bys rfl (.tmp 5) (.tmp 6) 22 rfl w.heap.size 5 Tryd.underlying22 info_byte (.slice (some ⟨w.heap.size, 0, none⟩) 0 0) 0 [] rfl (empty_owns w) (some ad) n c bs rfl (fun h => by cases h) HL.out B (HB.out.below ((Below.refl _ _).alloc hB _)) (by omega) (by simp) (by simp) ?_; intro v' w1 hown hv hbel)
  rw [List.nil_append, Nat.zero_add] at hown
  obtain ⟨A, c', rfl, hc', hA, hb', hN⟩ := owns_formN hown HB.out.1 hv
  have HY := Lib.hid hb'; clear hb' hown
  have HBE := Lib.hid (((Below.refl w.heap.size w).alloc (Nat.le_refl _) (.cells #[] 5)).trans hbel); clear hbel
  have HA := Lib.hid hA; clear hA hv
  have HN := Lib.hid hN; clear hN
  go_wp2
  go_ret
  exact ⟨A, c', rfl, hc', HA.out, HY.out, HN.out, HBE.out⟩

/-- CLONE. -/
theorem clone_anyN (A : Option Addr) (n c : Nat) (bs : List Nat) (hl : bs.length = n) (hn : n ≤ 4294967296) (w : World) (B : Nat) (hB : B ≤ w.heap.size) (hb : Bys w B A bs) :
    Calls Tryd.prog 26 #[.slice A n c] w (ClonedN bs n w) := by
  cases A with
  | none => exact clone_nilN n c bs hl w B hb
  | some ad => exact clone_someN ad n c bs hl hn w B hB hb
theorem clone_any (A : Option Addr) (n c : Nat) (bs : List Nat) (hl : bs.length = n) (hn : n ≤ 4096) (w : World) (B : Nat) (hB : B ≤ w.heap.size) (hb : Bys w B A bs) :
    Calls Tryd.prog 26 #[.slice A n c] w (Cloned bs n w) :=
  (clone_anyN A n c bs hl (by omega) w B hB hb).mono fun _ _ h => h.old
end Go.Proofs.YtoeboblkboillaaDoor
