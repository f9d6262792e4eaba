/-
  Contract of the reference's Derive. Conditions: the key has at most 100 bytes, there are at most 8 contexts, none of more than 100 bytes; all lie below, in their slices.
-/
import Derived.Test.YtihpjkidoingfaaDoorAskPair
import Derived.Test.YtihpjkidoingfaaDoorHmRefs
namespace Go.Proofs.YtihpjkidoingfaaDoor
open Go.RowKit Arr Sh Hm Kd

theorem run_at (s : ByteArray) (t : Nat) (ht : t < s.size) (W : World) : (Instr.index 9 (.string s) (.int .i64 (t : Int))).run Tryd.prog W = .ok (.int .u8 (((labOf s).getD t 0 : Nat) : Int)) W := by
  rw [run_index_string W _ s .i64 _ Tryd.underlying9, dif_pos ⟨by omega, by omega⟩]
  have h1 : t < s.data.size := ht
  have e : (labOf s).getD t 0 = s.data[t].toNat := by
    simp only [labOf, List.getD_eq_getElem?_getD, List.getElem?_map, Array.getElem?_toList]
    rw [Array.getElem?_eq_getElem h1]; rfl
  rw [e]
  rfl
theorem bytesOf_two (n : Nat) (h : n ≤ 128) : bytesOf n 2 = [0, n] := by
  simp only [bytesOf]
  have e1 : n / 256 ^ 1 % 256 = 0 := by omega
  have e2 : n / 256 ^ 0 % 256 = n := by omega
  rw [e1, e2]
/-- A row that the call owns, as a slice. -/
theorem owns_any {w : World} {base e n : Nat} {v : Value} {bs : List Nat} (h : w.ownsRow base e 1 v n (vals .u8 bs)) (hb : ∀ x, x ∈ bs → x < 256) :
    ∃ A c, v = .slice A n c ∧ (A = none → c = 0) ∧ n ≤ c ∧ bs.length = n ∧ Bys w w.heap.size A bs := by
  obtain ⟨A, c, rfl, hl, hb'⟩ := bys_of_owns h hb
  refine ⟨A, c, rfl, fun hA => ?_, ?_, hl, hb'⟩
  · subst hA
    rcases h.2 with ⟨h1, _⟩ | ⟨g, cap, cur, h1, _⟩
    · injection h1
    · cases h1
  · rcases h.2 with ⟨h1, h0⟩ | ⟨g, cap, cur, h1, _, _, h2, _⟩
    · injection h1; omega
    · injection h1; omega
def RDerNone (x : Nat) (w : World) (e : Ending) (w' : World) : Prop := e = .returned (.tuple #[.slice none 0 0, .int .i64 (x : Int)]) ∧ Below w.heap.size w w'
set_option maxHeartbeats 2000000 in
theorem rderive_none (K : Option Addr) (n0 d0 : Nat) (s : ByteArray) (n : Int) (A : Option Addr) (N c : Nat) (x : Nat) (hx : derErr n0 (labOf s) n = x) (hx0 : x ≠ 0) (w : World) :
    Calls Tryd.prog 9 #[.slice K n0 d0, .string s, .int .i64 n, .slice A N c] w (RDerNone x w) := by
  unfold derErr at hx
  by_cases h0 : n0 = 0
  · rw [if_pos h0] at hx
    subst h0 hx
    go_enter Tryd.func9, Tryd.ntmps9
    go_wp2
    go_ret2
    exact ⟨rfl, Below.refl _ _⟩
  · rw [if_neg h0] at hx
    have k1 : ((n0 : Int) == 0) = false := by simp; omega
    by_cases h1 : n < 1
    · rw [if_pos (.inl h1)] at hx
      subst hx
      have t1 : decide (n < 1) = true := decide_eq_true h1
      clear h0 h1 hx0
      go_enter Tryd.func9, Tryd.ntmps9
      go_wp2
      go_ret2
      exact ⟨rfl, Below.refl _ _⟩
    · have t1 : decide (n < 1) = false := decide_eq_false h1
      by_cases h2 : 128 < n
      · rw [if_pos (.inr h2)] at hx
        subst hx
        have t2 : decide (128 < n) = true := decide_eq_true h2
        have t3 : decide (n > 128) = true := decide_eq_true h2
        clear h0 h1 h2 hx0
        go_enter Tryd.func9, Tryd.ntmps9
        go_wp2
        go_ret2
        exact ⟨rfl, Below.refl _ _⟩
      · have t2 : decide (128 < n) = false := decide_eq_false h2
        have t3 : decide (n > 128) = false := decide_eq_false h2
        rw [if_neg (by omega), length_labOf] at hx
        by_cases h3 : 64 < s.size
        · rw [if_pos (.inl h3)] at hx
          subst hx
          have t4 : decide ((64 : Int) < (s.size : Int)) = true := by simp; omega
          have t5 : decide ((s.size : Int) > 64) = true := by simp; omega
          clear h0 h1 h2 h3 hx0
          go_enter Tryd.func9, Tryd.ntmps9
          go_wp2
          go_ret2
          exact ⟨rfl, Below.refl _ _⟩
        · by_cases h4 : 0 ∈ labOf s
          · rw [if_pos (.inr h4)] at hx
            subst hx
            have t4 : decide ((64 : Int) < (s.size : Int)) = false := by simp; omega
            have t5 : decide ((s.size : Int) > 64) = false := by simp; omega
            have H4 := Lib.hid h4
            have HI := Lib.hid (run_at s)
            have LL := Lib.hid (length_labOf s)
            clear h0 h1 h2 h4 hx0
            generalize labOf s = lab at *
            obtain ⟨z, ez⟩ : ∃ z, s.size = z := ⟨_, rfl⟩
            go_enter Tryd.func9, Tryd.ntmps9
            go_wp2_with fail
            go_loopw [10, 11] (fun v i wr => ∃ t : Nat, t ≤ s.size ∧ i = .int .i64 (t : Nat) ∧ wr.ownsRow w.heap.size 5 1 v t (vals .u8 (lab.take t)) ∧ Below w.heap.size w wr ∧ Go.RowKit.Hid (∀ j, j < t → lab.getD j 0 ≠ 0)) (fun _ i _ => s.size - (intOf i).toNat)
            case atStart => exact ⟨0, Nat.zero_le _, rfl, World.ownsRow_nil w w.heap.size 5 1, Below.refl _ _, Lib.hid (fun j hj => by omega)⟩
            case round =>
              obtain ⟨t, ht, rfl, ho, hb, hz⟩ := hrel
              by_cases hlt : t < s.size
              · have tt : decide ((t : Int) < (s.size : Int)) = true := by simp; omega
                have hi := HI.out t hlt
                have HTK := Lib.hid (take_snoc lab t (by rw [LL.out]; exact hlt))
                by_cases hy : lab.getD t 0 = 0
                · have hyb : (((lab.getD t 0 : Nat) : Int) == 0) = true := by rw [hy]; rfl
                  have HB := Lib.hid hb
                  clear hb ho hz hy HTK
                  generalize lab.getD t 0 = y at *
                  go_wp2
                  go_ret2
                  exact ⟨rfl, HB.out⟩
                · have hyb : (((lab.getD t 0 : Nat) : Int) == 0) = false := by rw [beq_eq_false_iff_ne]; omega
                  have HZ : Go.RowKit.Hid (∀ j, j < t + 1 → lab.getD j 0 ≠ 0) := Lib.hid (fun j hj => by
                    rcases Nat.lt_or_ge j t with h1 | h1
                    · exact hz.out j h1
                    · obtain rfl : j = t := by omega
                      exact hy)
                  have HO := Lib.hid ho
                  have HB := Lib.hid hb
                  have hsz := hb.size
                  clear hb ho hz hy
                  generalize lab.getD t 0 = y at *
                  go_wp2_with (at_builtin; refine append_one rfl (.tmp 38) (.tmp 42) 22 rfl w.heap.size 5 (.int .u8 0) 1 Tryd.underlying22 info_u8 rfl _ t _ (.int .u8 (y : Int)) rfl HO.out rfl rfl (by omega) (by omega) hsz ?_; intro v' w2 hown2 hbel2)
                  go_roundw
                  case rel => exact ⟨t + 1, by omega, by go_num, by rw [HTK.out, vals_snoc]; exact hown2, HB.out.trans hbel2, HZ⟩
                  case measure => simp [intOf]; omega
              · exfalso
                obtain ⟨j, hj, e⟩ := List.getElem_of_mem H4.out
                have hjt : j < t := by have := LL.out; omega
                refine hz.out j hjt ?_
                simp [hj, e]
          · rw [if_neg (by rintro (h | h); exact h3 h; exact h4 h)] at hx
            exact absurd hx.symm hx0
end Go.Proofs.YtihpjkidoingfaaDoor
