/-
  A key of 16 or 32 bytes as a cipher: its rounds and round keys, and aes.New of it. Conditions: the slice holds its bytes; the table of widths stands in its variable.
-/
import Derived.Test.YtdjknmnmacppdaaDoorAesNew
namespace Go.Proofs.YtdjknmnmacppdaaDoor
open Go.RowKit Arr Gf Sb Ae

/-- A key's rounds and round keys. -/
def rr (ks : List Nat) : Nat := nk ks.length + 6
def kk (ks : List Nat) : List Nat := keysOf ks (nk ks.length)
theorem nk16 : nk 16 = 4 := rfl
theorem nk32 : nk 32 = 8 := rfl
theorem rr_le {ks : List Nat} (h : ks.length = 16 ∨ ks.length = 32) : 1 ≤ rr ks ∧ rr ks ≤ 14 := by
  rcases h with h | h <;> rw [rr, h]
  · rw [nk16]; omega
  · rw [nk32]; omega
theorem kk_ok {ks : List Nat} (h : ks.length = 16 ∨ ks.length = 32) : Keys (rr ks) (kk ks) := keys_ok _ _ _ (rr_le h).2
theorem new_kek (ks : List Nat) (h : ks.length = 16 ∨ ks.length = 32) (A : Option Addr) (n c : Nat) (hn : ks.length = n) (hc : n ≤ c) (w : World) (hb : Bys w w.heap.size A ks) (ht : Tab w 0) :
    Calls Tryd.prog 16 #[.slice A n c] w fun e w' => ∃ g, e = .returned (.tuple #[.pointer (some ⟨g, 0, none⟩), .int .i64 0]) ∧ Ciph w' g (rr ks) (kk ks) ∧ w.heap.size ≤ g ∧ Below w.heap.size w w' := by
  subst hn
  rcases h with h | h
  · have e1 : rr ks = 4 + 6 := by rw [rr, h]; rfl
    have e2 : kk ks = keysOf ks 4 := by rw [kk, h]; rfl
    rw [h, e1, e2]
    exact new4 ks h A c (by omega) w hb ht
  · have e1 : rr ks = 8 + 6 := by rw [rr, h]; rfl
    have e2 : kk ks = keysOf ks 8 := by rw [kk, h]; rfl
    rw [h, e1, e2]
    exact new8 ks h A c (by omega) w hb ht
end Go.Proofs.YtdjknmnmacppdaaDoor
