/-
  The walk of the law SboxApart. No conditions.
-/
import Derived.Test.YtonkmkgehggoiaaSboxFns
namespace Go.Proofs.Ytonkmkgehggoiaa
open Go.RowKit Gf Sb

def Yes (w : World) (e : Ending) (w' : World) : Prop := e = .returned (.bool true) ∧ w = w'

theorem opp_nat : ∀ a : Nat, a < 256 → bits .xor .u8 IntKind.u8.max (a : Int) = ((255 - a : Nat) : Int) := by decide +kernel

theorem sbApart_same (a : Nat) (ha : a < 256) (w : World) : Calls Try.prog 5 #[.int .u8 (a : Int), .int .u8 (a : Int)] w (Yes w) := by
  have C0 := Lib.hid (awake_any w)
  have C1 := Lib.hid (of_any a ha w)
  have h1 := B_ne a ha
  have h2 := B_opp a ha
  have ho := opp_nat a ha
  generalize B a = b at *
  generalize 255 - a = o at *
  have t1 : ((b : Int) == (a : Int)) = false := by simp; omega
  have t1' : ((b : Int) != (a : Int)) = true := by simp; omega
  have t2 : ((b : Int) == (o : Int)) = false := by simp; omega
  have t2' : ((b : Int) != (o : Int)) = true := by simp; omega
  clear h1 h2
  go_enter Try.func5, Try.ntmps5
  go_wp2_with fail
  refine C0.out.mono ?_
  rintro e w' ⟨rfl, rfl⟩
  go_wp2_with fail
  refine C1.out.mono ?_
  rintro e w' ⟨rfl, rfl⟩
  go_wp2_with fail
  refine C1.out.mono ?_
  rintro e w' ⟨rfl, rfl⟩
  go_wp2
  go_ret
  exact ⟨rfl, rfl⟩
theorem sbApart_other (a c : Nat) (ha : a < 256) (hc : c < 256) (h : a ≠ c) (w : World) : Calls Try.prog 5 #[.int .u8 (a : Int), .int .u8 (c : Int)] w (Yes w) := by
  have C0 := Lib.hid (awake_any w)
  have C1 := Lib.hid (of_any a ha w)
  have C2 := Lib.hid (of_any c hc w)
  have h1 := B_ne a ha
  have h2 := B_opp a ha
  have h3 : B a ≠ B c := fun e => h (B_inj a c ha hc e)
  have ho := opp_nat a ha
  generalize B a = b at *
  generalize B c = d at *
  generalize 255 - a = o at *
  have t0 : ((a : Int) == (c : Int)) = false := by simp; omega
  have t3 : ((b : Int) == (d : Int)) = false := by simp; omega
  have t1 : ((b : Int) == (a : Int)) = false := by simp; omega
  have t1' : ((b : Int) != (a : Int)) = true := by simp; omega
  have t2 : ((b : Int) == (o : Int)) = false := by simp; omega
  have t2' : ((b : Int) != (o : Int)) = true := by simp; omega
  clear h1 h2 h3 h
  go_enter Try.func5, Try.ntmps5
  go_wp2_with fail
  refine C0.out.mono ?_
  rintro e w' ⟨rfl, rfl⟩
  go_wp2_with fail
  refine C1.out.mono ?_
  rintro e w' ⟨rfl, rfl⟩
  go_wp2_with fail
  refine C2.out.mono ?_
  rintro e w' ⟨rfl, rfl⟩
  go_wp2
  go_ret
  exact ⟨rfl, rfl⟩
theorem sbApart_walk (a : Nat) (ha : a < 256) (c : Nat) (hc : c < 256) (w : World) :
    Calls Try.prog 5 #[.int .u8 (a : Int), .int .u8 (c : Int)] w fun e w' => e = .returned (.bool true) ∧ Grown w w' := by
  by_cases h : a = c
  · subst h; exact (sbApart_same a ha w).mono fun _ _ h => ⟨h.1, h.2 ▸ Grown.refl _⟩
  · exact (sbApart_other a c ha hc h w).mono fun _ _ h => ⟨h.1, h.2 ▸ Grown.refl _⟩
end Go.Proofs.Ytonkmkgehggoiaa
