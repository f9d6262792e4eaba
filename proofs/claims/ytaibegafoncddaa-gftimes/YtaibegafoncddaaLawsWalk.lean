/-
  The walk of the law GfLaws (written by tools/gen_laws.py). No conditions.
-/
import Derived.Test.YtaibegafoncddaaGfFns
namespace Go.Proofs.Ytaibegafoncddaa
open Go.RowKit Gf

def Yes (w : World) (e : Ending) (w' : World) : Prop := e = .returned (.bool true) ∧ w = w'

theorem powr_nat (a n : Nat) (ha : a < 256) (h : a ≠ 0) : powr a (n : Int) = pw a n := by
  unfold powr
  split
  · next h0 => obtain rfl : n = 0 := by omega
               rfl
  · rw [pw_mod a n ha h]; congr 1
theorem powr_neg1 (a : Nat) : powr a (-1) = inv a := by
  unfold powr
  rw [if_neg (by omega)]
  split
  · next h => subst h; exact inv_zero.symm
  · rfl
theorem byte_eq {x y : Nat} {w : World} {e : Ending} {w' : World} (h : x = y) (hb : Byte x w e w') : Byte y w e w' := h ▸ hb
theorem calls_eq {f : Nat} {args : Array Value} {x y : Nat} {w : World} (h : x = y) (hc : Calls Try.prog f args w (Byte x w)) : Calls Try.prog f args w (Byte y w) := h ▸ hc
theorem times_is (a b p : Nat) (ha : a < 256) (hb : b < 256) (h : T a b = p) (w : World) : Calls Try.prog 8 #[.int .u8 (a : Int), .int .u8 (b : Int)] w (Byte p w) :=
  calls_eq h (times_any a b ha hb w)
theorem power_is (a : Nat) (n : Int) (p : Nat) (ha : a < 256) (h : powr a n = p) (w : World) : Calls Try.prog 12 #[.int .u8 (a : Int), .int .i64 n] w (Byte p w) :=
  calls_eq h (power_any a ha n w)
theorem inverse_is (a p : Nat) (ha : a < 256) (h : inv a = p) (w : World) : Calls Try.prog 10 #[.int .u8 (a : Int)] w (Byte p w) :=
  calls_eq h (inverse_any a ha w)

set_option maxHeartbeats 4000000 in
theorem laws_zero (a b c : Nat) (ha : a < 256) (hb : b < 256) (hc : c < 256) (h0 : a = 0) (w : World) : Calls Try.prog 5 #[.int .u8 (a : Int), .int .u8 (b : Int), .int .u8 (c : Int)] w (Yes w) := by
  have C0 := Lib.hid (awake_any w)
  obtain ⟨p, hp⟩ : ∃ p, T a b = p := ⟨_, rfl⟩
  have hp' : p < 256 := hp ▸ T_lt a b ha
  obtain ⟨q, hq⟩ : ∃ q, T p c = q := ⟨_, rfl⟩
  obtain ⟨r, hr⟩ : ∃ r, T b c = r := ⟨_, rfl⟩
  have hr' : r < 256 := hr ▸ T_lt b c hb
  obtain ⟨d, hd⟩ : ∃ d, b ^^^ c = d := ⟨_, rfl⟩
  have hd' : d < 256 := hd ▸ xor_lt hb hc
  obtain ⟨m, hm⟩ : ∃ m, T a c = m := ⟨_, rfl⟩
  have hm' : m < 256 := hm ▸ T_lt a c ha
  obtain ⟨s, hs⟩ : ∃ s, T a d = s := ⟨_, rfl⟩
  obtain ⟨i, hi⟩ : ∃ i, inv a = i := ⟨_, rfl⟩
  have hi' : i < 256 := hi ▸ inv_lt a ha
  have x1 : bits .xor .u8 (b : Int) (c : Int) = (d : Int) := by rw [u8_xor_nat b c hb hc, hd]
  have x2 : bits .xor .u8 (p : Int) (m : Int) = (s : Int) := by rw [u8_xor_nat p m hp' hm', ← hp, ← hm, ← T_right, hd, hs]
  have C1 := Lib.hid (times_is a b p ha hb hp w)
  have C2 := Lib.hid (times_is b a p hb ha (by rw [T_comm b a hb ha, hp]) w)
  have C3 := Lib.hid (times_is p c q hp' hc hq w)
  have C4 := Lib.hid (times_is b c r hb hc hr w)
  have C5 := Lib.hid (times_is a r q ha hr' (by rw [← hr, ← T_assoc a b c ha hb hc, hp, hq]) w)
  have C6 := Lib.hid (times_is a d s ha hd' hs w)
  have C7 := Lib.hid (times_is a c m ha hc hm w)
  have C8 := Lib.hid (times_is a 1 a ha (by omega) (T_one a ha) w)
  have C9 := Lib.hid (times_is a 0 0 ha (by omega) (T_zero a) w)
  have C10 := Lib.hid (inverse_is a i ha hi w)
  have t0 : ((a : Int) == 0) = true := by simp; omega
  have ti : ((i : Int) == 0) = true := by subst h0; rw [← hi, inv_zero]; rfl
  have C11 := Lib.hid (power_is a 0 1 ha rfl w)
  have C12 := Lib.hid (power_is a 5 0 ha (by subst h0; rfl) w)
  clear hp hq hr hd hm hs hi h0
  go_enter Try.func5, Try.ntmps5
  go_wp2_with fail
  refine C0.out.mono ?_
  rintro e w' ⟨rfl, rfl⟩
  go_wp2_with fail
  refine C1.out.mono ?_
  rintro e w' ⟨rfl, rfl⟩
  go_wp2_with fail
  refine C2.out.mono ?_
  rintro e w' ⟨rfl, rfl⟩
  go_wp2_with fail
  refine C1.out.mono ?_
  rintro e w' ⟨rfl, rfl⟩
  go_wp2_with fail
  refine C3.out.mono ?_
  rintro e w' ⟨rfl, rfl⟩
  go_wp2_with fail
  refine C4.out.mono ?_
  rintro e w' ⟨rfl, rfl⟩
  go_wp2_with fail
  refine C5.out.mono ?_
  rintro e w' ⟨rfl, rfl⟩
  go_wp2_with fail
  refine C6.out.mono ?_
  rintro e w' ⟨rfl, rfl⟩
  go_wp2_with fail
  refine C1.out.mono ?_
  rintro e w' ⟨rfl, rfl⟩
  go_wp2_with fail
  refine C7.out.mono ?_
  rintro e w' ⟨rfl, rfl⟩
  go_wp2_with fail
  refine C8.out.mono ?_
  rintro e w' ⟨rfl, rfl⟩
  go_wp2_with fail
  refine C9.out.mono ?_
  rintro e w' ⟨rfl, rfl⟩
  go_wp2_with fail
  refine C10.out.mono ?_
  rintro e w' ⟨rfl, rfl⟩
  go_wp2_with fail
  refine C11.out.mono ?_
  rintro e w' ⟨rfl, rfl⟩
  go_wp2_with fail
  refine C12.out.mono ?_
  rintro e w' ⟨rfl, rfl⟩
  go_wp2
  go_ret
  exact ⟨rfl, rfl⟩

set_option maxHeartbeats 4000000 in
theorem laws_some (a b c : Nat) (ha : a < 256) (hb : b < 256) (hc : c < 256) (h0 : a ≠ 0) (w : World) : Calls Try.prog 5 #[.int .u8 (a : Int), .int .u8 (b : Int), .int .u8 (c : Int)] w (Yes w) := by
  have C0 := Lib.hid (awake_any w)
  obtain ⟨p, hp⟩ : ∃ p, T a b = p := ⟨_, rfl⟩
  have hp' : p < 256 := hp ▸ T_lt a b ha
  obtain ⟨q, hq⟩ : ∃ q, T p c = q := ⟨_, rfl⟩
  obtain ⟨r, hr⟩ : ∃ r, T b c = r := ⟨_, rfl⟩
  have hr' : r < 256 := hr ▸ T_lt b c hb
  obtain ⟨d, hd⟩ : ∃ d, b ^^^ c = d := ⟨_, rfl⟩
  have hd' : d < 256 := hd ▸ xor_lt hb hc
  obtain ⟨m, hm⟩ : ∃ m, T a c = m := ⟨_, rfl⟩
  have hm' : m < 256 := hm ▸ T_lt a c ha
  obtain ⟨s, hs⟩ : ∃ s, T a d = s := ⟨_, rfl⟩
  obtain ⟨i, hi⟩ : ∃ i, inv a = i := ⟨_, rfl⟩
  have hi' : i < 256 := hi ▸ inv_lt a ha
  have x1 : bits .xor .u8 (b : Int) (c : Int) = (d : Int) := by rw [u8_xor_nat b c hb hc, hd]
  have x2 : bits .xor .u8 (p : Int) (m : Int) = (s : Int) := by rw [u8_xor_nat p m hp' hm', ← hp, ← hm, ← T_right, hd, hs]
  have C1 := Lib.hid (times_is a b p ha hb hp w)
  have C2 := Lib.hid (times_is b a p hb ha (by rw [T_comm b a hb ha, hp]) w)
  have C3 := Lib.hid (times_is p c q hp' hc hq w)
  have C4 := Lib.hid (times_is b c r hb hc hr w)
  have C5 := Lib.hid (times_is a r q ha hr' (by rw [← hr, ← T_assoc a b c ha hb hc, hp, hq]) w)
  have C6 := Lib.hid (times_is a d s ha hd' hs w)
  have C7 := Lib.hid (times_is a c m ha hc hm w)
  have C8 := Lib.hid (times_is a 1 a ha (by omega) (T_one a ha) w)
  have C9 := Lib.hid (times_is a 0 0 ha (by omega) (T_zero a) w)
  have C10 := Lib.hid (inverse_is a i ha hi w)
  have t0 : ((a : Int) == 0) = false := by simp; omega
  obtain ⟨u, hu⟩ : ∃ u, pw a (b + c) = u := ⟨_, rfl⟩
  obtain ⟨v, hv⟩ : ∃ v, pw a b = v := ⟨_, rfl⟩
  have hv' : v < 256 := hv ▸ pw_lt a b ha
  obtain ⟨y, hy⟩ : ∃ y, pw a c = y := ⟨_, rfl⟩
  have hy' : y < 256 := hy ▸ pw_lt a c ha
  have C11 := Lib.hid (times_is a i 1 ha hi' (by rw [← hi]; exact T_inv a ha h0) w)
  have C12 := Lib.hid (inverse_is i a hi' (by rw [← hi]; exact inv_inv a ha h0) w)
  have C13 := Lib.hid (power_is a 255 1 ha (by rw [show (255 : Int) = ((255 : Nat) : Int) from rfl, powr_nat a _ ha h0]; exact pw_255 a ha h0) w)
  have C14 := Lib.hid (power_is a (-1) i ha (by rw [powr_neg1, hi]) w)
  have C15 := power_is a ((b + c : Nat) : Int) u ha (by rw [powr_nat a _ ha h0, hu]) w
  rw [Int.natCast_add] at C15
  have C15 := Lib.hid C15
  have C16 := Lib.hid (power_is a (b : Int) v ha (by rw [powr_nat a _ ha h0, hv]) w)
  have C17 := Lib.hid (power_is a (c : Int) y ha (by rw [powr_nat a _ ha h0, hy]) w)
  have C18 := Lib.hid (times_is v y u hv' hy' (by rw [← hv, ← hy, ← hu, pw_add a b c ha]) w)
  clear hu hv hy
  clear hp hq hr hd hm hs hi h0
  go_enter Try.func5, Try.ntmps5
  go_wp2_with fail
  refine C0.out.mono ?_
  rintro e w' ⟨rfl, rfl⟩
  go_wp2_with fail
  refine C1.out.mono ?_
  rintro e w' ⟨rfl, rfl⟩
  go_wp2_with fail
  refine C2.out.mono ?_
  rintro e w' ⟨rfl, rfl⟩
  go_wp2_with fail
  refine C1.out.mono ?_
  rintro e w' ⟨rfl, rfl⟩
  go_wp2_with fail
  refine C3.out.mono ?_
  rintro e w' ⟨rfl, rfl⟩
  go_wp2_with fail
  refine C4.out.mono ?_
  rintro e w' ⟨rfl, rfl⟩
  go_wp2_with fail
  refine C5.out.mono ?_
  rintro e w' ⟨rfl, rfl⟩
  go_wp2_with fail
  refine C6.out.mono ?_
  rintro e w' ⟨rfl, rfl⟩
  go_wp2_with fail
  refine C1.out.mono ?_
  rintro e w' ⟨rfl, rfl⟩
  go_wp2_with fail
  refine C7.out.mono ?_
  rintro e w' ⟨rfl, rfl⟩
  go_wp2_with fail
  refine C8.out.mono ?_
  rintro e w' ⟨rfl, rfl⟩
  go_wp2_with fail
  refine C9.out.mono ?_
  rintro e w' ⟨rfl, rfl⟩
  go_wp2_with fail
  refine C10.out.mono ?_
  rintro e w' ⟨rfl, rfl⟩
  go_wp2_with fail
  refine C11.out.mono ?_
  rintro e w' ⟨rfl, rfl⟩
  go_wp2_with fail
  refine C12.out.mono ?_
  rintro e w' ⟨rfl, rfl⟩
  go_wp2_with fail
  refine C13.out.mono ?_
  rintro e w' ⟨rfl, rfl⟩
  go_wp2_with fail
  refine C14.out.mono ?_
  rintro e w' ⟨rfl, rfl⟩
  go_wp2_with fail
  refine C15.out.mono ?_
  rintro e w' ⟨rfl, rfl⟩
  go_wp2_with fail
  refine C16.out.mono ?_
  rintro e w' ⟨rfl, rfl⟩
  go_wp2_with fail
  refine C17.out.mono ?_
  rintro e w' ⟨rfl, rfl⟩
  go_wp2_with fail
  refine C18.out.mono ?_
  rintro e w' ⟨rfl, rfl⟩
  go_wp2
  go_ret
  exact ⟨rfl, rfl⟩

theorem laws_any (a b c : Nat) (ha : a < 256) (hb : b < 256) (hc : c < 256) (w : World) : Calls Try.prog 5 #[.int .u8 (a : Int), .int .u8 (b : Int), .int .u8 (c : Int)] w (Yes w) := by
  by_cases h : a = 0
  · exact laws_zero a b c ha hb hc h w
  · exact laws_some a b c ha hb hc h w
theorem laws_walk (a : Nat) (ha : a < 256) (b : Nat) (hb : b < 256) (c : Nat) (hc : c < 256) (w : World) :
    Calls Try.prog 5 #[.int .u8 (a : Int), .int .u8 (b : Int), .int .u8 (c : Int)] w fun e w' => e = .returned (.bool true) ∧ Grown w w' :=
  (laws_any a b c ha hb hc w).mono fun _ _ h => ⟨h.1, h.2 ▸ Grown.refl _⟩
end Go.Proofs.Ytaibegafoncddaa
