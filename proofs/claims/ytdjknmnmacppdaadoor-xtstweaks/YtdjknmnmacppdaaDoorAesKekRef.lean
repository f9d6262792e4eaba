/-
  A key of 16 or 32 bytes as the reference's: Make of it enciphers, ever after. Condition: the slice holds its bytes.
-/
import Derived.Test.YtdjknmnmacppdaaDoorAesKek
import Derived.Test.YtdjknmnmacppdaaDoorAesMake4
import Derived.Test.YtdjknmnmacppdaaDoorAesMake8
import Derived.Test.YtdjknmnmacppdaaDoorRencAll
namespace Go.Proofs.YtdjknmnmacppdaaDoor
open Go.RowKit Arr Gf Sb Ae

/-- What Make leaves: a key that enciphers, ever after. -/
def MadeEnc (ks : List Nat) (w : World) (e : Ending) (w' : World) : Prop :=
  ∃ g, e = .returned (.pointer (some ⟨g, 0, none⟩)) ∧ Below w.heap.size w w' ∧ ∀ b, St b → ∀ w'', Below w'.heap.size w' w'' → Calls Tryd.prog 21 #[.pointer (some ⟨g, 0, none⟩), .agg (na .u8 b)] w'' (GivesA (enc (rr ks) (kk ks) b) w'')
theorem make_enc (ks : List Nat) (hk : ks.length = 16 ∨ ks.length = 32) (A : Option Addr) (n c : Nat) (hn : ks.length = n) (w : World) (hb : Bys w w.heap.size A ks) :
    Calls Tryd.prog 20 #[.slice A n c] w (MadeEnc ks w) := by
  obtain ⟨k, hk4, hl, hnk⟩ : ∃ k, (k = 4 ∨ k = 8) ∧ ks.length = 4 * k ∧ nk ks.length = k := by
    rcases hk with h | h
    · exact ⟨4, .inl rfl, h, by rw [h]; rfl⟩
    · exact ⟨8, .inr rfl, h, by rw [h]; rfl⟩
  have hm : Calls Tryd.prog 20 #[.slice A n c] w (RMade ks k w) := by
    subst hn
    rcases hk4 with rfl | rfl
    · rw [hl]; exact make4 ks hl A c w hb
    · rw [hl]; exact make8 ks hl A c w hb
  have e1 : rr ks = k + 6 := by rw [rr, hnk]
  have e2 : kk ks = keysOf ks k := by rw [kk, hnk]
  have hK := keys_ok ks k (k + 6) (by omega)
  have hsame : ∀ j i, j ≤ k + 6 → i < 16 → (allB (words ks k) (4 * (k + 7))).getD (16 * j + i) 0 = (ek (keysOf ks k) j).getD i 0 := fun j i hj hi => allB_ek _ _ _ _ (by omega) (by omega) hi
  refine hm.mono ?_
  rintro e w' ⟨g, gB, cB, gb, cb, rfl, hR, hB⟩
  refine ⟨g, rfl, hB, fun b hs w'' hb'' => ?_⟩
  rw [e1, e2]
  exact renc_any g (k + 6) gB cB gb cb (allB (words ks k) (4 * (k + 7))) (keysOf ks k) b (by omega) (by omega) hK hs (allB_lt _ _) (by rw [length_allB]; omega) hsame w'' (hR.after (by rw [length_allB]; omega) hb'')
end Go.Proofs.YtdjknmnmacppdaaDoor
