/-
  Contracts of xts's Encrypt and Decrypt: each error, all bytes. Conditions: the sector lies in its block, the bytes in their slice.
  The chapter's example: two blocks of noughts are enciphered to something else. Plain reckoning: no program is named here.
-/
import Derived.Test.YtdjknmnmacppdaaDoorXtTurn
namespace Go.Proofs.YtdjknmnmacppdaaDoor
open Go.RowKit Arr Gf Sb Ae Xt

/-- Is it a number and a sector? -/
def okSec (nu : Int) (n : Nat) : Bool := okTw nu 0 && isSec n
def xErr (nu : Int) (n : Nat) : Nat := if okSec nu n then 0 else 2
/-- The sector that is answered, or none. -/
def xL (f : List Nat → List Nat) (ks : List Nat) (nu : Int) (b : List Nat) : List Nat := if okSec nu b.length then secL f (twk ks nu.toNat 0) b else []
theorem okTw_nat {nu : Int} (h : okTw nu 0 = true) : ∃ k : Nat, nu = (k : Int) ∧ k ≤ 4611686018427387904 := by
  simp only [okTw, Bool.and_eq_true, decide_eq_true_eq] at h
  exact ⟨nu.toNat, by omega, by omega⟩
theorem isSec_m {n : Nat} (h : isSec n = true) : ∃ m, n = 16 * m ∧ 0 < m ∧ m ≤ 256 := by
  simp only [isSec, Bool.and_eq_true, decide_eq_true_eq] at h
  exact ⟨n / 16, by omega, by omega, by omega⟩

section
variable {ks b : List Nat} {g g1 g2 n c : Nat} {A : Option Addr} {w : World}
/-- enc: what turned answers. -/
theorem xt_enc (h : Sec w g g1 g2 ks) (hk : okKey ks.length) (nu : Int) (hc : n ≤ c) (hl : b.length = n) (hb : Bys w w.heap.size A b) :
    Calls Tryd.prog 17 #[.pointer (some ⟨g, 0, none⟩), .int .i64 nu, .slice A n c, .func (.func 18) #[] #[]] w (GivesX (xL (enc (rr (ka ks)) (kk (ka ks))) ks nu b) (xErr nu n) w) := by
  cases ht : okTw nu 0 with
  | false =>
    rw [xL, xErr, okSec, okSec, ht]
    exact turned_none _ _ nu 2 (by omega) (xtweak_bad h nu 0 ht)
  | true =>
    obtain ⟨k, rfl, hk2⟩ := okTw_nat ht
    cases hs : isSec n with
    | false =>
      rw [xL, xErr, okSec, okSec, hl, ht, hs]
      exact turned_odd _ _ _ _ (st_twk hk k 0).1 hs (xtweak_ok h hk k 0 hk2 (by omega))
    | true =>
      obtain ⟨m, hm, h0, h1⟩ := isSec_m hs
      rw [xL, xErr, okSec, okSec, hl, ht, hs, Int.toNat_natCast, secL, hl, show n / 16 = m by omega]
      exact turned_enc h hk k hk2 m hm h0 h1 hc hl hb
theorem xEncrypt_any (h : Sec w g g1 g2 ks) (hk : okKey ks.length) (nu : Int) (hc : n ≤ c) (hl : b.length = n) (hb : Bys w w.heap.size A b) :
    Calls Tryd.prog 9 #[.pointer (some ⟨g, 0, none⟩), .int .i64 nu, .slice A n c] w (GivesX (xL (enc (rr (ka ks)) (kk (ka ks))) ks nu b) (xErr nu n) w) := by
  have C0 := Lib.hid (xt_enc h hk nu hc hl hb)
  clear h hk hc hl hb
  generalize xL (enc (rr (ka ks)) (kk (ka ks))) ks nu b = o at *
  generalize xErr nu n = x at *
  go_enter Tryd.func9, Tryd.ntmps9
  go_wp2_with fail
  refine C0.out.mono ?_
  rintro e w1 ⟨A1, c1, rfl, h1, h2, h3, h4⟩
  have HG := Lib.hid (show GivesX o x w (.returned (.tuple #[.slice A1 o.length c1, .int .i64 (x : Int)])) w1 from ⟨A1, c1, rfl, h1, h2, h3, h4⟩)
  clear h1 h2 h3 h4 C0
  go_wp2
  go_ret2
  exact HG.out
theorem xEncrypt_nil (nu : Int) : Calls Tryd.prog 9 #[.pointer none, .int .i64 nu, .slice A n c] w (GivesX [] 1 w) := by
  have C0 := Lib.hid (turned_none (A := A) (n := n) (c := c) (.pointer none) (.func (.func 18) #[] #[]) nu 1 (by omega) (xtweak_nil (w := w) nu 0))
  go_enter Tryd.func9, Tryd.ntmps9
  go_wp2_with fail
  refine C0.out.mono ?_
  rintro e w1 ⟨A1, c1, rfl, h1, h2, h3, h4⟩
  have HG := Lib.hid (show GivesX [] 1 w (.returned (.tuple #[.slice A1 0 c1, .int .i64 1])) w1 from ⟨A1, c1, rfl, h1, h2, h3, h4⟩)
  clear h1 h2 h3 h4 C0
  go_wp2
  go_ret2
  exact HG.out
/-- dec: what turned answers. -/
theorem xt_dec (h : Sec w g g1 g2 ks) (hk : okKey ks.length) (nu : Int) (hc : n ≤ c) (hl : b.length = n) (hb : Bys w w.heap.size A b) :
    Calls Tryd.prog 17 #[.pointer (some ⟨g, 0, none⟩), .int .i64 nu, .slice A n c, .func (.func 19) #[] #[]] w (GivesX (xL (dec (rr (ka ks)) (kk (ka ks))) ks nu b) (xErr nu n) w) := by
  cases ht : okTw nu 0 with
  | false =>
    rw [xL, xErr, okSec, okSec, ht]
    exact turned_none _ _ nu 2 (by omega) (xtweak_bad h nu 0 ht)
  | true =>
    obtain ⟨k, rfl, hk2⟩ := okTw_nat ht
    cases hs : isSec n with
    | false =>
      rw [xL, xErr, okSec, okSec, hl, ht, hs]
      exact turned_odd _ _ _ _ (st_twk hk k 0).1 hs (xtweak_ok h hk k 0 hk2 (by omega))
    | true =>
      obtain ⟨m, hm, h0, h1⟩ := isSec_m hs
      rw [xL, xErr, okSec, okSec, hl, ht, hs, Int.toNat_natCast, secL, hl, show n / 16 = m by omega]
      exact turned_dec h hk k hk2 m hm h0 h1 hc hl hb
theorem xDecrypt_any (h : Sec w g g1 g2 ks) (hk : okKey ks.length) (nu : Int) (hc : n ≤ c) (hl : b.length = n) (hb : Bys w w.heap.size A b) :
    Calls Tryd.prog 10 #[.pointer (some ⟨g, 0, none⟩), .int .i64 nu, .slice A n c] w (GivesX (xL (dec (rr (ka ks)) (kk (ka ks))) ks nu b) (xErr nu n) w) := by
  have C0 := Lib.hid (xt_dec h hk nu hc hl hb)
  clear h hk hc hl hb
  generalize xL (dec (rr (ka ks)) (kk (ka ks))) ks nu b = o at *
  generalize xErr nu n = x at *
  go_enter Tryd.func10, Tryd.ntmps10
  go_wp2_with fail
  refine C0.out.mono ?_
  rintro e w1 ⟨A1, c1, rfl, h1, h2, h3, h4⟩
  have HG := Lib.hid (show GivesX o x w (.returned (.tuple #[.slice A1 o.length c1, .int .i64 (x : Int)])) w1 from ⟨A1, c1, rfl, h1, h2, h3, h4⟩)
  clear h1 h2 h3 h4 C0
  go_wp2
  go_ret2
  exact HG.out
theorem xDecrypt_nil (nu : Int) : Calls Tryd.prog 10 #[.pointer none, .int .i64 nu, .slice A n c] w (GivesX [] 1 w) := by
  have C0 := Lib.hid (turned_none (A := A) (n := n) (c := c) (.pointer none) (.func (.func 19) #[] #[]) nu 1 (by omega) (xtweak_nil (w := w) nu 0))
  go_enter Tryd.func10, Tryd.ntmps10
  go_wp2_with fail
  refine C0.out.mono ?_
  rintro e w1 ⟨A1, c1, rfl, h1, h2, h3, h4⟩
  have HG := Lib.hid (show GivesX [] 1 w (.returned (.tuple #[.slice A1 0 c1, .int .i64 1])) w1 from ⟨A1, c1, rfl, h1, h2, h3, h4⟩)
  clear h1 h2 h3 h4 C0
  go_wp2
  go_ret2
  exact HG.out
end
end Go.Proofs.YtdjknmnmacppdaaDoor
namespace Go.Proofs.YtdjknmnmacppdaaDoor.Xt
open Ae Arr
/-- The law's own key. -/
def keyL : List Nat := 1 :: zs 31
theorem keyL_len : keyL.length = 32 := by decide
theorem keyL_lt : ∀ x, x ∈ keyL → x < 256 := by decide
theorem ok_keyL : okKey keyL.length := .inl keyL_len
theorem ex_ne : xL (enc (rr (ka keyL)) (kk (ka keyL))) keyL 5 (zs 32) ≠ zs 32 := by decide +kernel
theorem ex_ok : xErr 5 32 = 0 := by decide
theorem ex_len : (xL (enc (rr (ka keyL)) (kk (ka keyL))) keyL 5 (zs 32)).length = 32 := by
  rw [xL, if_pos (by decide), secL, len_outN]; rfl
end Go.Proofs.YtdjknmnmacppdaaDoor.Xt
