/-
  Contract of the law's few: no context, key or label of more than 100 bytes, at most 8 contexts. Conditions: the contexts lie below, in their slices; there are at most 2^63 - 1.
-/
import Derived.Test.YtihpjkidoingfaaDoorKdDerive
namespace Go.Proofs.YtihpjkidoingfaaDoor
open Go.RowKit Arr Sh Hm Kd

def FewOut (ps : List Pt) (n0 sz N : Nat) (w : World) (e : Ending) (w' : World) : Prop :=
  ∃ b, e = .returned (.bool b) ∧ Below w.heap.size w w' ∧ (b = true → (∀ i (h : i < ps.length), ps[i].bs.length ≤ 100) ∧ n0 ≤ 100 ∧ sz ≤ 100 ∧ N ≤ 8)
theorem few_no {ps : List Pt} {n0 sz N : Nat} {w : World} {w' : World} (hB : Below w.heap.size w w') : FewOut ps n0 sz N w (.returned (.bool false)) w' := ⟨false, rfl, hB, fun h => by cases h⟩
set_option maxHeartbeats 1000000 in
theorem few_any (K : Option Addr) (n0 d0 : Nat) (s : ByteArray) (n : Int) (ps : List Pt) (A : Option Addr) (N c : Nat) (hN : ps.length = N) (hN2 : N ≤ 9223372036854775807) (w : World) (hp : Parts w w.heap.size A ps) :
    Calls Tryd.prog 7 #[.agg #[.slice K n0 d0, .string s, .int .i64 n, .slice A N c]] w (FewOut ps n0 s.size N w) := by
  have B1 := Lib.hid (below_alloc w (.cells #[.slice K n0 d0, .string s, .int .i64 n, .slice A N c] 25))
  have hc0 : (w.alloc (.cells #[.slice K n0 d0, .string s, .int .i64 n, .slice A N c] 25)).cell? ⟨w.heap.size, 0, none⟩ = some (.slice K n0 d0) := by rw [World.cell?_alloc_new]; rfl
  have hc1 : (w.alloc (.cells #[.slice K n0 d0, .string s, .int .i64 n, .slice A N c] 25)).cell? ⟨w.heap.size, 1, none⟩ = some (.string s) := by rw [World.cell?_alloc_new]; rfl
  have hc3 : (w.alloc (.cells #[.slice K n0 d0, .string s, .int .i64 n, .slice A N c] 25)).cell? ⟨w.heap.size, 3, none⟩ = some (.slice A N c) := by rw [World.cell?_alloc_new]; rfl
  have HN := Lib.hid hN
  have HP := Lib.hid (hp.below B1.out)
  clear hN hp
  go_enter Tryd.func7, Tryd.ntmps7
  go_upto_region 1 with fail
  generalize w.alloc (.cells #[.slice K n0 d0, .string s, .int .i64 n, .slice A N c] 25) = w1 at *
  go_upto_region 2 with fail
  go_loopw [8] (fun i wr => ∃ t : Nat, t ≤ N ∧ i = .int .i64 (t : Nat) ∧ wr = w1 ∧ Go.RowKit.Hid (∀ j (h : j < ps.length), j < t → ps[j].bs.length ≤ 100)) (fun i _ => N - (intOf i).toNat)
  case atStart => exact ⟨0, by omega, rfl, rfl, Lib.hid (fun j _ h => by omega)⟩
  case round =>
    obtain ⟨t, ht, rfl, rfl, hall⟩ := hrel
    by_cases hlt : t < N
    · as_aux_lemma =>
      have tt : decide ((t : Int) < (N : Int)) = true := by simp; omega
      have ti : (t : Int) < (N : Int) := by omega
      have tl : t < ps.length := by rw [HN.out]; exact hlt
      have wt : IntKind.i64.wrap ((t : Int) + 1) = (t : Int) + 1 := by rw [IntKind.wrap_i64]; omega
      obtain ⟨pb, po, rfl, hpb, hpc⟩ := HP.out.heads (by omega)
      have cp := hpc t tl
      clear hpc
      by_cases hb : ps[t].bs.length ≤ 100
      · have t1 : decide ((ps[t].bs.length : Int) > 100) = false := decide_eq_false (by omega)
        have t2 : decide (100 < (ps[t].bs.length : Int)) = false := decide_eq_false (by omega)
        have HB := Lib.hid hb
        clear hb
        have HALL : Go.RowKit.Hid (∀ j (h : j < ps.length), j < t + 1 → ps[j].bs.length ≤ 100) := Lib.hid (fun j h hj => by
          rcases Nat.lt_or_ge j t with h1 | h1
          · exact hall.out j h h1
          · obtain rfl : j = t := by omega
            exact HB.out)
        clear HB hall
        generalize ps[t].bs.length = il at *
        generalize ps[t].A = iA at *
        generalize ps[t].c = ic at *
        go_wp2
        go_roundw
        case rel => exact ⟨t + 1, by omega, by go_num, True.intro, HALL⟩
        case measure => simp [intOf]; omega
      · have t1 : decide ((ps[t].bs.length : Int) > 100) = true := decide_eq_true (by omega)
        have t2 : decide (100 < (ps[t].bs.length : Int)) = true := decide_eq_true (by omega)
        clear hb hall
        generalize ps[t].bs.length = il at *
        generalize ps[t].A = iA at *
        generalize ps[t].c = ic at *
        go_wp2
        go_ret
        exact few_no B1.out
    · as_aux_lemma =>
      obtain rfl : t = N := by omega
      have tt : decide ((t : Int) < (t : Int)) = false := by simp
      have HALL : Go.RowKit.Hid (∀ j (h : j < ps.length), ps[j].bs.length ≤ 100) := Lib.hid (fun j h => hall.out j h (by have := HN.out; omega))
      clear hall
      by_cases h1 : n0 ≤ 100
      · have t1 : decide ((n0 : Int) ≤ 100) = true := decide_eq_true (by omega)
        by_cases h2 : s.size ≤ 100
        · have t2 : decide ((s.size : Int) ≤ 100) = true := decide_eq_true (by omega)
          by_cases h3 : t ≤ 8
          · have t3 : decide ((t : Int) ≤ 8) = true := decide_eq_true (by omega)
            have HF := Lib.hid (And.intro h1 (And.intro h2 h3))
            clear h1 h2 h3
            go_wp2
            go_ret
            exact ⟨true, rfl, B1.out, fun _ => ⟨HALL.out, HF.out⟩⟩
          · have t3 : decide ((t : Int) ≤ 8) = false := decide_eq_false (by omega)
            clear h1 h2 h3
            go_wp2
            go_ret
            exact few_no B1.out
        · have t2 : decide ((s.size : Int) ≤ 100) = false := decide_eq_false (by omega)
          clear h1 h2
          go_wp2
          go_ret
          exact few_no B1.out
      · have t1 : decide ((n0 : Int) ≤ 100) = false := decide_eq_false (by omega)
        clear h1
        go_wp2
        go_ret
        exact few_no B1.out
end Go.Proofs.YtihpjkidoingfaaDoor
