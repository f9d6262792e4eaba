/-
  Contracts of strings.IndexByte (for the byte 0) and kdf.Derive: a derived key, or why there is none. Conditions: the tables stand in their variables; key and contexts lie below, in their slices; the contexts are fewer than 2^30, all together fewer than 2^60 bytes with the label.
-/
import Derived.Test.YtihpjkidoingfaaDoorKdDerived
import Derived.Lib.Bytealg
namespace Go.Proofs.YtihpjkidoingfaaDoor
open Go.RowKit Arr Sh Hm Kd

/-- Where the byte 0 stands first in a label, or -1. -/
def idx0 (s : ByteArray) : Int := Lib.indexByte s.data.toList 0
theorem idx_mem : ∀ l : List UInt8, 0 ≤ Lib.indexByte l 0 ↔ (0 : UInt8) ∈ l
  | [] => by simp [Lib.indexByte]
  | b :: l => by
    have ih := idx_mem l
    have g := Lib.indexByte_ge l 0
    unfold Lib.indexByte
    by_cases hb : b = 0
    · subst hb; simp
    · rw [if_neg (by simpa using hb)]
      split
      · rename_i h
        have h' : Lib.indexByte l 0 = -1 := by simpa using h
        constructor
        · intro h0; omega
        · intro hm
          rcases List.mem_cons.1 hm with h0 | h0
          · exact absurd h0.symm hb
          · have := ih.2 h0; omega
      · rename_i h
        have h' : Lib.indexByte l 0 ≠ -1 := by simpa using h
        constructor
        · intro _; exact List.mem_cons_of_mem _ (ih.1 (by omega))
        · intro _; omega
theorem idx0_iff (s : ByteArray) : 0 ≤ idx0 s ↔ 0 ∈ labOf s := by
  unfold idx0
  rw [idx_mem]
  constructor
  · intro h; exact List.mem_map.2 ⟨0, h, rfl⟩
  · intro h
    obtain ⟨b, hb, e⟩ := List.mem_map.1 h
    have eb : b = 0 := UInt8.toNat_inj.1 (by rw [e]; rfl)
    rw [eb] at hb
    exact hb
theorem run_index0 (s : ByteArray) (W : World) : (callFunc 28 #[.string s, .int .u8 0]).run Tryd.prog W = .ok (.value (.int .i64 (idx0 s))) W := by
  rw [run_callFunc_extern Tryd.func28 (by kernel_rfl) (by kernel_rfl) (by kernel_rfl) (e := Extern.BytealgIndexByte.indexByte) (by kernel_rfl) #[.string s, .int .u8 0] W, Lib.run_indexByteString]
  rfl
theorem slindex_any (s : ByteArray) (w : World) : Calls Tryd.prog 20 #[.string s, .int .u8 0] w (fun e w' => e = .returned (.int .i64 (idx0 s)) ∧ w = w') := by
  have hd := fun W => run_index0 s W
  generalize idx0 s = ix at *
  go_enter Tryd.func20, Tryd.ntmps20
  go_wp2
  go_ret
  exact ⟨rfl, rfl⟩
theorem index_any (s : ByteArray) (w : World) : Calls Tryd.prog 14 #[.string s, .int .u8 0] w (fun e w' => e = .returned (.int .i64 (idx0 s)) ∧ w = w') := by
  have H := Lib.hid (slindex_any s w)
  generalize idx0 s = ix at *
  go_enter Tryd.func14, Tryd.ntmps14
  go_wp2_with fail
  refine H.out.mono ?_
  rintro e w' ⟨rfl, rfl⟩
  go_wp2
  go_ret
  exact ⟨rfl, rfl⟩

/-- Why there is none; nought if there is one. -/
def derErr (k : Nat) (lab : List Nat) (n : Int) : Nat := if k = 0 then 20 else if n < 1 ∨ 128 < n then 2 else if 64 < lab.length ∨ 0 ∈ lab then 3 else 0
def DeriveNone (x : Nat) (w : World) (e : Ending) (w' : World) : Prop := e = .returned (.tuple #[.slice none 0 0, .int .i64 (x : Int)]) ∧ w = w'
def DeriveSome (l : List Nat) (n : Nat) (w : World) (e : Ending) (w' : World) : Prop := ∃ g, e = .returned (.tuple #[.slice (some ⟨g, 0, none⟩) n n, .int .i64 0]) ∧ w.heap.size ≤ g ∧ Holds w' g .u8 l ∧ Below w.heap.size w w'

theorem derive_none (K : Option Addr) (n0 d0 : Nat) (s : ByteArray) (n : Int) (A : Option Addr) (N c : Nat) (x : Nat) (hx : derErr n0 (labOf s) n = x) (hx0 : x ≠ 0) (w : World) :
    Calls Tryd.prog 8 #[.slice K n0 d0, .string s, .int .i64 n, .slice A N c] w (DeriveNone x w) := by
  unfold derErr at hx
  by_cases h0 : n0 = 0
  · rw [if_pos h0] at hx
    subst h0 hx
    go_enter Tryd.func8, Tryd.ntmps8
    go_wp2
    go_ret2
    exact ⟨rfl, rfl⟩
  · rw [if_neg h0] at hx
    have k1 : ((n0 : Int) == 0) = false := by simp; omega
    by_cases h1 : n < 1
    · rw [if_pos (.inl h1)] at hx
      subst hx
      have t1 : decide (n < 1) = true := decide_eq_true h1
      clear h0 h1 hx0
      go_enter Tryd.func8, Tryd.ntmps8
      go_wp2
      go_ret2
      exact ⟨rfl, rfl⟩
    · have t1 : decide (n < 1) = false := decide_eq_false h1
      by_cases h2 : 128 < n
      · rw [if_pos (.inr h2)] at hx
        subst hx
        have t2 : decide (128 < n) = true := decide_eq_true h2
        have t3 : decide (n > 128) = true := decide_eq_true h2
        clear h0 h1 h2 hx0
        go_enter Tryd.func8, Tryd.ntmps8
        go_wp2
        go_ret2
        exact ⟨rfl, rfl⟩
      · have t2 : decide (128 < n) = false := decide_eq_false h2
        have t3 : decide (n > 128) = false := decide_eq_false h2
        rw [if_neg (by omega), length_labOf] at hx
        by_cases h3 : 64 < s.size
        · rw [if_pos (.inl h3)] at hx
          subst hx
          have t4 : decide ((64 : Int) < (s.size : Int)) = true := by simp; omega
          have t5 : decide ((s.size : Int) > 64) = true := by simp; omega
          clear h0 h1 h2 h3 hx0
          go_enter Tryd.func8, Tryd.ntmps8
          go_wp2
          go_ret2
          exact ⟨rfl, rfl⟩
        · by_cases h4 : 0 ∈ labOf s
          · rw [if_pos (.inr h4)] at hx
            subst hx
            have t4 : decide ((64 : Int) < (s.size : Int)) = false := by simp; omega
            have t5 : decide ((s.size : Int) > 64) = false := by simp; omega
            have t6 : decide (0 ≤ idx0 s) = true := decide_eq_true ((idx0_iff s).2 h4)
            have t7 : decide (idx0 s ≥ 0) = true := t6
            have H := Lib.hid (index_any s w)
            clear h0 h1 h2 h3 h4 hx0
            generalize idx0 s = ix at *
            go_enter Tryd.func8, Tryd.ntmps8
            go_wp2_with fail
            refine H.out.mono ?_
            rintro e w' ⟨rfl, rfl⟩
            go_wp2
            go_ret2
            exact ⟨rfl, rfl⟩
          · rw [if_neg (by rintro (h | h); exact h3 h; exact h4 h)] at hx
            exact absurd hx.symm hx0

theorem derErr_zero {k : Nat} {lab : List Nat} {n : Int} (h : derErr k lab n = 0) : k ≠ 0 ∧ 1 ≤ n ∧ n ≤ 128 ∧ lab.length ≤ 64 ∧ 0 ∉ lab := by
  unfold derErr at h
  split at h
  · cases h
  · split at h
    · cases h
    · split at h
      · cases h
      · rename_i h1 h2 h3
        exact ⟨h1, by omega, by omega, by omega, fun h4 => h3 (.inr h4)⟩
theorem derive_some (ks : List Nat) (K : Option Addr) (n0 d0 : Nat) (hl : ks.length = n0) (hd0 : n0 ≤ d0) (hn0 : n0 < 1152921504606846976) (s : ByteArray) (n : Nat) (he : derErr n0 (labOf s) (n : Int) = 0) (ps : List Pt) (A : Option Addr) (N c : Nat) (hN : ps.length = N) (hN2 : N < 1073741824) (hT : ∀ i (h : i < ps.length), ps[i].bs.length ≤ 4611686018427387904)
    (hTT : s.size + (ctx (ps.map (·.bs))).length + 100 < 1152921504606846976) (w : World) (hb : Bys w w.heap.size K ks) (hp : Parts w w.heap.size A ps) (hv : VarsS w) :
    Calls Tryd.prog 8 #[.slice K n0 d0, .string s, .int .i64 (n : Int), .slice A N c] w (DeriveSome (der ks (labOf s) (ps.map (·.bs)) n) n w) := by
  obtain ⟨h0, h1, h2, h3, h4⟩ := derErr_zero he
  rw [length_labOf] at h3
  have HD := Lib.hid (derived_any ks K n0 d0 hl hd0 hn0 s n (by omega) (by omega) ps A N c hN hN2 hT hTT w hb hp hv)
  have k1 : ((n0 : Int) == 0) = false := by simp; omega
  have t1 : decide ((n : Int) < 1) = false := decide_eq_false (by omega)
  have t2 : decide (128 < (n : Int)) = false := decide_eq_false (by omega)
  have t3 : decide ((n : Int) > 128) = false := decide_eq_false (by omega)
  have t4 : decide ((64 : Int) < (s.size : Int)) = false := by simp; omega
  have t5 : decide ((s.size : Int) > 64) = false := by simp; omega
  have t6 : decide (0 ≤ idx0 s) = false := decide_eq_false (fun h => h4 ((idx0_iff s).1 h))
  have t7 : decide (idx0 s ≥ 0) = false := t6
  have H := Lib.hid (index_any s w)
  clear h0 h1 h2 h3 h4 he hl hd0 hn0 hN hN2 hT hTT hb hp hv
  generalize idx0 s = ix at *
  generalize der ks (labOf s) (ps.map (·.bs)) n = dl at *
  go_enter Tryd.func8, Tryd.ntmps8
  go_wp2_with fail
  refine H.out.mono ?_
  rintro e w' ⟨rfl, rfl⟩
  go_wp2_with fail
  refine HD.out.mono ?_
  rintro e w' ⟨g, rfl, hg, hH, hB⟩
  have X := Lib.hid (And.intro hg (And.intro hH hB))
  clear hg hH hB HD H
  go_wp2
  go_ret2
  exact ⟨g, rfl, X.out.1, X.out.2.1, X.out.2.2⟩
end Go.Proofs.YtihpjkidoingfaaDoor
