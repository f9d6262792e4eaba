/-
  The contract of the reference's Put, for seats with W32: for every number and size it answers the bytes that word.Put is to answer, in new memory, or the error. No conditions.
-/
import Derived.Test.YthnndklaefnpcaaDoorWGet
import Derived.Test.YthnndklaefnpcaaDoorOwn
namespace Go.Proofs.YthnndklaefnpcaaDoor
open Go.RowKit

/-- The lowest k bytes, the lowest first. -/
def lowB (n k : Nat) : List Nat := (List.range k).map fun i => n / 256 ^ i % 256
theorem lowB_succ (n k : Nat) : lowB n (k + 1) = lowB n k ++ [n / 256 ^ k % 256] := by simp [lowB, List.range_succ]
theorem length_lowB (n k : Nat) : (lowB n k).length = k := by simp [lowB]
theorem getD_lowB (n k i : Nat) (h : i < k) : (lowB n k).getD i 0 = n / 256 ^ i % 256 := by simp [lowB, h]
theorem div_succ (n k : Nat) : n / 256 ^ (k + 1) = n / 256 ^ k / 256 := by rw [Nat.pow_succ, Nat.div_div_eq_div_mul]

theorem info_int : (Tryd.prog.info? 3).map (fun i => (i.zero, i.size, i.bytes)) = some (some (.int .i64 0), 1, 8) := by kernel_rfl

def RPutNone (w : World) (e : Ending) (w' : World) : Prop := e = .returned (.tuple #[.slice none 0 0, .int .i64 2]) ∧ Below w.heap.size w w'
def RPutSome (n s : Nat) (w : World) (e : Ending) (w' : World) : Prop :=
  ∃ A c, e = .returned (.tuple #[.slice A s c, .int .i64 0]) ∧ Bys w' w'.heap.size A (bytesOf n s) ∧ Below w.heap.size w w'
def RPutAny (n s : Nat) (w : World) (e : Ending) (w' : World) : Prop := if n < 256 ^ s then RPutSome n s w e w' else RPutNone w e w'

theorem rput_low (n s : Int) (hs : s < 1) (w : World) : Calls Tryd.prog 34 #[.int .i64 n, .int .i64 s] w (RPutNone w) := by
  have h1 : decide (s < 1) = true := by simp; omega
  go_enter Tryd.func34, Tryd.ntmps34
  go_wp2
  go_ret2
  exact ⟨rfl, Below.refl _ _⟩
theorem rput_high (n s : Int) (hs : 8 < s) (w : World) : Calls Tryd.prog 34 #[.int .i64 n, .int .i64 s] w (RPutNone w) := by
  have h1 : decide (s < 1) = false := by simp; omega
  have h2 : decide (8 < s) = true := by simp; omega
  go_enter Tryd.func34, Tryd.ntmps34
  go_wp2
  go_ret2
  exact ⟨rfl, Below.refl _ _⟩
theorem rput_neg (n s : Int) (hs1 : 1 ≤ s) (hs : s ≤ 8) (hn : n < 0) (w : World) : Calls Tryd.prog 34 #[.int .i64 n, .int .i64 s] w (RPutNone w) := by
  have h1 : decide (s < 1) = false := by simp; omega
  have h2 : decide (8 < s) = false := by simp; omega
  have h3 : decide (n < 0) = true := by simp; omega
  go_enter Tryd.func34, Tryd.ntmps34
  go_wp2
  go_ret2
  exact ⟨rfl, Below.refl _ _⟩
theorem rput_over (n s : Int) (hs1 : 1 ≤ s) (hs : s ≤ 8) (hn : 4611686018427387904 < n) (w : World) : Calls Tryd.prog 34 #[.int .i64 n, .int .i64 s] w (RPutNone w) := by
  have h1 : decide (s < 1) = false := by simp; omega
  have h2 : decide (8 < s) = false := by simp; omega
  have h3 : decide (n < 0) = false := by simp; omega
  have h4 : decide (4611686018427387904 < n) = true := by simp; omega
  go_enter Tryd.func34, Tryd.ntmps34
  go_wp2
  go_ret2
  exact ⟨rfl, Below.refl _ _⟩

set_option maxHeartbeats 2000000 in
theorem rput_main (n s : Nat) (hs1 : 1 ≤ s) (hs : s ≤ 8) (hn : n ≤ 4611686018427387904) (w : World) :
    Calls Tryd.prog 34 #[.int .i64 (n : Int), .int .i64 (s : Int)] w (RPutAny n s w) := by
  have h1 : decide ((s : Int) < 1) = false := by simp; omega
  have h2 : decide (8 < (s : Int)) = false := by simp; omega
  have h3 : decide ((n : Int) < 0) = false := by simp
  have h4 : decide (4611686018427387904 < (n : Int)) = false := by simp; omega
  go_enter Tryd.func34, Tryd.ntmps34
  go_wp2
  go_loopw [0, 6, 7] (fun n0 lo i wr => ∃ k : Nat, k ≤ s ∧ i = .int .i64 k ∧ n0 = .int .i64 (n / 256 ^ k : Nat) ∧ wr.ownsRow w.heap.size 3 1 lo k (vals .i64 (lowB n k)) ∧ Below w.heap.size w wr) (fun _ _ i _ => s - (intOf i).toNat)
  case atStart => exact ⟨0, Nat.zero_le _, rfl, by simp, World.ownsRow_nil w w.heap.size 3 1, Below.refl _ _⟩
  case round =>
    obtain ⟨k, hk, rfl, rfl, hown, hbel⟩ := hrel
    have HO := Lib.hid hown; clear hown
    have HB := Lib.hid hbel; clear hbel
    have hsz := HB.out.size
    have HD := Lib.hid (div_succ n k)
    have HLS := Lib.hid (lowB_succ n k)
    have hX : n / 256 ^ k ≤ 4611686018427387904 := Nat.le_trans (Nat.div_le_self _ _) hn
    by_cases hlt : k < s
    · generalize n / 256 ^ k = X at *
      go_wp2_with (at_builtin; refine append_one rfl (.tmp 29) (.tmp 32) 72 rfl w.heap.size 3 (.int .i64 0) 8 Tryd.underlying72 info_int rfl _ k _ (.int .i64 ((X : Int) % 256)) rfl HO.out rfl rfl (by omega) (by omega) hsz ?_; intro v' w1 hown1 hbel1)
      go_roundw
      case rel => exact ⟨k + 1, by omega, by go_num, by rw [HD.out]; go_num, by rw [HLS.out, vals_snoc]; simpa using hown1, HB.out.trans hbel1⟩
      case measure => simp [intOf]; omega
    · obtain rfl : k = s := by omega
      obtain ⟨g, c, rfl, hg, hcells⟩ := cells_of_owns HO.out hs1
      have HC := Lib.hid hcells; clear hcells
      obtain ⟨W2, rfl⟩ : ∃ W2 : World, W2 = wr := ⟨_, rfl⟩
      by_cases hfit : n < 256 ^ k
      · have hq : n / 256 ^ k = 0 := Nat.div_eq_of_lt hfit
        have HFIT := Lib.hid hfit; clear hfit
        rw [hq, show ((0 : Nat) : Int) = 0 from rfl]
        clear hq HD
        go_wp2
        go_loopw [8, 9] (fun out i wq => ∃ j : Nat, j ≤ k ∧ i = .int .i64 ((k : Int) - 1 - (j : Int)) ∧ wq.ownsRow W2.heap.size 5 1 out j (vals .u8 ((bytesOf n k).take j)) ∧ Below W2.heap.size W2 wq) (fun _ i _ => (intOf i + 1).toNat)
        case atStart => exact ⟨0, Nat.zero_le _, by go_num, World.ownsRow_nil W2 W2.heap.size 5 1, Below.refl _ _⟩
        case round =>
          obtain ⟨j, hj, rfl, hown, hbel⟩ := hrel
          have HO2 := Lib.hid hown; clear hown
          have HB2 := Lib.hid hbel; clear hbel
          have hsz2 := HB2.out.size
          by_cases hjs : j < k
          · obtain ⟨i, hi⟩ : ∃ i : Nat, (k : Int) - 1 - (j : Int) = (i : Int) := ⟨k - 1 - j, by omega⟩
            have hik : i < k := by omega
            have hij : i = k - 1 - j := by omega
            have hc1 : wr.cell? ⟨g, i, none⟩ = some (.int .i64 (((lowB n k).getD i 0 : Nat) : Int)) := (HB2.out.cell (p := ⟨g, i, none⟩) hg).trans (HC.out i hik)
            have hcv : (lowB n k).getD i 0 < 256 := by rw [getD_lowB n k i hik]; exact Nat.mod_lt _ (by omega)
            have hbv : (bytesOf n k).getD j 0 = (lowB n k).getD i 0 := by rw [getD_bytesOf n k j hjs, getD_lowB n k i hik, hij]
            have HTK := Lib.hid (take_snoc (bytesOf n k) j (by rw [length_bytesOf]; exact hjs))
            rw [hbv] at HTK
            have HI := Lib.hid hi
            rw [hi]
            clear hi hij hbv
            generalize (lowB n k).getD i 0 = cv at *
            go_wp2_with (at_builtin; refine append_one rfl (.tmp 44) (.tmp 50) 29 rfl W2.heap.size 5 (.int .u8 0) 1 Tryd.underlying29 info_u8 rfl _ j _ (.int .u8 (cv : Int)) rfl HO2.out rfl rfl (by omega) (by omega) hsz2 ?_; intro v' w1 hown1 hbel1)
            go_roundw
            case rel => exact ⟨j + 1, by omega, by have := HI.out; go_num, by rw [HTK.out, vals_snoc]; exact hown1, HB2.out.trans hbel1⟩
            case measure => simp [intOf]
          · obtain rfl : j = k := by omega
            have hlast : (j : Int) - 1 - (j : Int) = -1 := by omega
            rw [hlast]
            clear hlast
            have hfull : (bytesOf n j).take j = bytesOf n j := by rw [List.take_of_length_le (by rw [length_bytesOf]; omega)]
            have HF := Lib.hid (bys_of_owns (hfull ▸ HO2.out) (bytesOf_lt n j))
            clear hfull
            obtain ⟨A, c2, rfl, _, hbys⟩ := HF.out
            have HY := Lib.hid hbys; clear hbys
            go_wp2
            go_ret2
            show RPutAny n j w _ _
            unfold RPutAny
            rw [if_pos HFIT.out]
            exact ⟨A, c2, rfl, HY.out, HB.out.trans (HB2.out.mono HB.out.size)⟩
      · have hq : 0 < n / 256 ^ k := Nat.div_pos (by omega) (Nat.pow_pos (by omega))
        have HFIT := Lib.hid hfit; clear hfit
        clear HD
        generalize n / 256 ^ k = X at *
        have hq' : decide ((0 : Int) < (X : Int)) = true := by simp; omega
        go_wp2
        go_ret2
        show RPutAny n k w _ _
        unfold RPutAny
        rw [if_neg HFIT.out]
        exact ⟨rfl, HB.out⟩

/-- The reference's PUT, where there is no text. -/
theorem rput_none (n s : Int) (h : putOk n s = false) (w : World) : Calls Tryd.prog 34 #[.int .i64 n, .int .i64 s] w (RPutNone w) := by
  by_cases h1 : s < 1
  · exact rput_low n s h1 w
  · by_cases h2 : 8 < s
    · exact rput_high n s h2 w
    · by_cases h3 : n < 0
      · exact rput_neg n s (by omega) (by omega) h3 w
      · by_cases h4 : 4611686018427387904 < n
        · exact rput_over n s (by omega) (by omega) h4 w
        · obtain ⟨m, rfl⟩ := Int.eq_ofNat_of_zero_le (show 0 ≤ s by omega)
          obtain ⟨k, rfl⟩ := Int.eq_ofNat_of_zero_le (show 0 ≤ n by omega)
          refine (rput_main k m (by omega) (by omega) (by omega) w).mono fun e w' hr => ?_
          unfold RPutAny at hr
          rw [if_neg] at hr
          · exact hr
          · intro hlt
            have := (putOk_mk (m := k) (k := m) (by omega) (by omega) (by omega) hlt).2
            rw [h] at this
            cases this
/-- The reference's PUT, where there is one. -/
theorem rput_some (m k : Nat) (h1 : 1 ≤ k) (h2 : k ≤ 8) (h3 : m ≤ 4611686018427387904) (h4 : m < 256 ^ k) (w : World) :
    Calls Tryd.prog 34 #[.int .i64 (m : Int), .int .i64 (k : Int)] w (RPutSome m k w) := by
  refine (rput_main m k h1 h2 h3 w).mono fun e w' hr => ?_
  unfold RPutAny at hr
  rw [if_pos h4] at hr
  exact hr
end Go.Proofs.YthnndklaefnpcaaDoor
