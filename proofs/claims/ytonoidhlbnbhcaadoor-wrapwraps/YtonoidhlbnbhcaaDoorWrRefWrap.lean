/-
  The contract of the reference's Wrap. Conditions: the slices hold their bytes.
-/
import Derived.Test.YtonoidhlbnbhcaaDoorWrRefMem
import Derived.Test.YtonoidhlbnbhcaaDoorWrWrap
import Derived.Test.YtonoidhlbnbhcaaDoorAesMake4
import Derived.Test.YtonoidhlbnbhcaaDoorAesMake8
import Derived.Test.YtonoidhlbnbhcaaDoorAesRenc
import Derived.Test.YtonoidhlbnbhcaaDoorRefWord
import Derived.Deep.CutRange
namespace Go.Proofs.YtonoidhlbnbhcaaDoor
open Go.RowKit Arr Gf Sb Ae Wr

/-- What Make leaves: a key that enciphers, ever after. -/
def MadeEnc (ks : List Nat) (w : World) (e : Ending) (w' : World) : Prop :=
  ∃ g, e = .returned (.pointer (some ⟨g, 0, none⟩)) ∧ Below w.heap.size w w' ∧ ∀ b, St b → ∀ w'', Below w'.heap.size w' w'' → Calls Tryd.prog 18 #[.pointer (some ⟨g, 0, none⟩), .agg (na .u8 b)] w'' (GivesA (enc (rr ks) (kk ks) b) w'')
theorem make_enc (ks : List Nat) (hk : ks.length = 16 ∨ ks.length = 32) (A : Option Addr) (n c : Nat) (hn : ks.length = n) (w : World) (hb : Bys w w.heap.size A ks) :
    Calls Tryd.prog 17 #[.slice A n c] w (MadeEnc ks w) := by
  obtain ⟨k, hk4, hl, hnk⟩ : ∃ k, (k = 4 ∨ k = 8) ∧ ks.length = 4 * k ∧ nk ks.length = k := by
    rcases hk with h | h
    · exact ⟨4, .inl rfl, h, by rw [h]; rfl⟩
    · exact ⟨8, .inr rfl, h, by rw [h]; rfl⟩
  have hm : Calls Tryd.prog 17 #[.slice A n c] w (RMade ks k w) := by
    subst hn
    rcases hk4 with rfl | rfl
    · rw [hl]; exact make4 ks hl A c w hb
    · rw [hl]; exact make8 ks hl A c w hb
  have e1 : rr ks = k + 6 := by rw [rr, hnk]
  have e2 : kk ks = keysOf ks k := by rw [kk, hnk]
  have hK := keys_ok ks k (k + 6) (by omega)
  have hsame : ∀ j i, j ≤ k + 6 → i < 16 → (allB (words ks k) (4 * (k + 7))).getD (16 * j + i) 0 = (ek (keysOf ks k) j).getD i 0 := fun j i hj hi => allB_ek _ _ _ _ (by omega) (by omega) hi
  refine hm.mono ?_
  rintro e w' ⟨g, gB, cB, gb, cb, rfl, hR, hB⟩
  refine ⟨g, rfl, hB, fun b hs w'' hb'' => ?_⟩
  rw [e1, e2]
  exact renc_any g (k + 6) gB cB gb cb (allB (words ks k) (4 * (k + 7))) (keysOf ks k) b (by omega) (by omega) hK hs (allB_lt _ _) (by rw [length_allB]; omega) hsame w'' (hR.after (by rw [length_allB]; omega) hb'')

/-- Eight bytes more, and which block the row lies in. -/
theorem append_piece {P : Program} {w : World} {ops : Array Oper} {rest : List Oper} {o : Oper} {a : Act} {Q : Exit → Act → World → Prop} (hgd : o.guard = none) (s x : Operand) (t : TypeId)
    (ho : o.op = .call { callee := .builtin .append, args := #[s, x], argTypes := #[t, t] })
    (base : Nat) (e : TypeId) (ht : P.underlying t = some (.slice e)) (hinfo : (P.info? e).map (fun i => (i.zero, i.size, i.bytes)) = some (some (.int .u8 0), 1, 1))
    (v : Value) (n : Nat) (xs : List Value) (hs : a.eval s = v) (hown : w.ownsRow base e 1 v n xs) (b off c : Nat) (ys : List Nat) (hy : ys.length = 8) (hx : a.eval x = .slice (some ⟨b, off, none⟩) 8 c)
    (hc : ∀ k, k < 8 → w.cell? ⟨b, off + k, none⟩ = some (.int .u8 ((ys.getD k 0 : Nat) : Int))) (hn : n ≤ 4294967296) (hbase : base ≤ w.heap.size)
    (h : ∀ g cap w', w'.ownsRow base e 1 (.slice (some ⟨g, 0, none⟩) (n + 8) cap) (n + 8) (xs ++ vals .u8 ys) → w.grownBy w' v.ownBlock → (v.ownBlock = some g ∨ g = w.heap.size) → g < w'.heap.size → wpList P ops Q rest (a.put o.dst (.slice (some ⟨g, 0, none⟩) (n + 8) cap)) w') : wpList P ops Q (o :: rest) a w := by
  obtain ⟨i0, hi, hz0, hz1, hz2⟩ := info_parts hinfo
  refine wpList_append_lies _ hgd s x t ho base e i0 (.int .u8 0) 1 1 ht hi hz0 hz1 hz2 rfl (by decide) v n xs hs hown ⟨b, off, none⟩ 8 c (vals .u8 ys) hx (by simp [vals, hy]) ?_ ?_ (by omega) (by unfold maxLen; omega) (by omega) hbase w.heap.size rfl h
  · intro j u hu
    have hj : j < ys.length := by have := (List.getElem?_eq_some_iff.1 hu).1; simpa [vals] using this
    rw [vals_get .u8 ys j hj] at hu
    rw [add_nat, hc j (by omega)]; exact hu
  · intro u hu; simp only [vals, List.mem_map] at hu; obtain ⟨z, _, rfl⟩ := hu; rfl

/-- The heads of the key's pieces. -/
def heads (kb ko c1 m : Nat) : List Value := (List.range m).map fun i => .slice (some ⟨kb, ko + 8 * i, none⟩) 8 (c1 - 8 * i)
theorem heads_succ (kb ko c1 m : Nat) : heads kb ko c1 (m + 1) = heads kb ko c1 m ++ [.slice (some ⟨kb, ko + 8 * m, none⟩) 8 (c1 - 8 * m)] := by simp [heads, List.range_succ]
theorem heads_get (kb ko c1 m i : Nat) (hi : i < m) : (heads kb ko c1 m)[i]? = some (.slice (some ⟨kb, ko + 8 * i, none⟩) 8 (c1 - 8 * i)) := by simp [heads, hi]
theorem run_piece (kb ko n c lo hi : Nat) (h1 : lo ≤ hi) (h2 : hi ≤ c) (h3 : lo < c) (W : World) :
    (Instr.slice 22 (.slice (some ⟨kb, ko, none⟩) n c) (some (.int .i64 (lo : Int))) (some (.int .i64 (hi : Int))) none).run Tryd.prog W = .ok (.slice (some ⟨kb, ko + lo, none⟩) (hi - lo) (c - lo)) W := by
  rw [run_slice_lh W 22 _ n c underB .i64 .i64 _ _ (by omega) (by omega) (by omega), sizeofB]
  simp only [Result.andThen_ok, sliced, Int.toNat_natCast, Nat.mul_one]
  rw [if_neg (by omega), Option.map_some, add_nat]

section
variable {ks key : List Nat} {A0 A1 : Option Addr} {n0 c0 n1 c1 : Nat} {w : World}
theorem rwrap_kek (h0 : ks.length = n0) (hk : ¬ (ks.length = 16 ∨ ks.length = 32)) : Calls Tryd.prog 8 #[.slice A0 n0 c0, .slice A1 n1 c1] w (GivesE [] 20 w) := by
  have q1 : ((n0 : Int) != 16) = true := by simp; omega
  have q2 : ((n0 : Int) != 32) = true := by simp; omega
  clear h0 hk
  go_enter Tryd.func8, Tryd.ntmps8
  go_wp2
  go_ret2
  exact givesE_none 20 (Below.refl _ _)
set_option maxHeartbeats 1000000 in
theorem rwrap_key (h0 : ks.length = n0) (hk : ks.length = 16 ∨ ks.length = 32) (hm : may (n1 : Int) = false) : Calls Tryd.prog 8 #[.slice A0 n0 c0, .slice A1 n1 c1] w (GivesE [] 2 w) := by
  have hk' : n0 = 16 ∨ n0 = 32 := by rw [← h0]; exact hk
  have e1 : (n1 : Int).tmod 8 = (n1 : Int) % 8 := Int.tmod_eq_emod_of_nonneg (by omega)
  have hb : ¬ (16 ≤ (n1 : Int) ∧ (n1 : Int) ≤ 64 ∧ (n1 : Int) % 8 = 0) := fun h => by
    have : may (n1 : Int) = true := by simp [may, h.1, h.2.1, h.2.2]
    rw [hm] at this; cases this
  clear h0 hk hm
  go_enter Tryd.func8, Tryd.ntmps8
  go_upto_region 1 with fail
  go_cut [28] from 21 to 28 (fun v wx => v = .bool false ∧ wx = w)
  case first =>
    rcases hk' with h | h
    · subst h
      go_wp2_with fail
      go_meet
      case rel => exact ⟨rfl, rfl⟩
    · subst h
      go_wp2_with fail
      go_meet
      case rel => exact ⟨rfl, rfl⟩
  case rest =>
    obtain ⟨rfl, rfl⟩ := hcut
    by_cases h8 : (n1 : Int) % 8 = 0
    · have t1 : (((n1 : Int) % 8) != 0) = false := by simp [h8]
      by_cases h16 : n1 < 16
      · have t2 : decide ((n1 : Int) < 16) = true := by simp; omega
        have t3 : decide (n1 < 16) = true := by simp; omega
        go_wp2
        go_ret2
        exact givesE_none 2 (Below.refl _ _)
      · have t2 : decide ((n1 : Int) < 16) = false := by simp; omega
        have t3 : decide (n1 < 16) = false := by simp; omega
        have t4 : decide ((64 : Int) < (n1 : Int)) = true := by simp; omega
        have t5 : decide (64 < n1) = true := by simp; omega
        go_wp2
        go_ret2
        exact givesE_none 2 (Below.refl _ _)
    · have t1 : (((n1 : Int) % 8) != 0) = true := by simp [h8]
      have t2 : (((n1 : Int) % 8) == 0) = false := by simp [h8]
      go_wp2
      go_ret2
      exact givesE_none 2 (Below.refl _ _)
end
end Go.Proofs.YtonoidhlbnbhcaaDoor
