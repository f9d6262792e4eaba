/-
  Contracts of the reference's primes, Kinds and Begin. No conditions.
-/
import Derived.Test.YtjcpnephgbehmaaDoorRootRoot
import Derived.Test.YtjcpnephgbehmaaDoorRootAll
namespace Go.Proofs.YtjcpnephgbehmaaDoor
open Go.RowKit Arr Sh Ro

theorem pgo_none (f p n : Nat) (o : List Nat) (h : ¬ o.length < n) : pgo f p o n = o := by
  cases f with
  | zero => rfl
  | succ f => rw [pgo, if_neg h]
/-- What a row of ints looks like. -/
theorem owns_ints {w : World} {base n : Nat} {v : Value} {l : List Nat} (h : w.ownsRow base 3 1 v n (vals .i64 l)) : ∃ A c, v = .slice A n c ∧ (0 < n → ∃ g, A = some ⟨g, 0, none⟩ ∧ TabI w g l) := by
  rcases Nat.eq_zero_or_pos n with h0 | h0
  · subst h0
    rcases h.2 with ⟨rfl, _⟩ | ⟨g, cap, cur, rfl, _⟩
    · exact ⟨_, _, rfl, fun h => by omega⟩
    · exact ⟨_, _, rfl, fun h => by omega⟩
  · obtain ⟨g, c, rfl, _, _, _, hH⟩ := holds_of_owns h h0
    exact ⟨_, _, rfl, fun _ => ⟨g, rfl, tabI_of hH⟩⟩

set_option maxHeartbeats 2000000 in
set_option maxRecDepth 10000 in
theorem primes_any (n : Nat) (L : List Nat) (hL : pgo 400 2 [] n = L) (hLn : L.length = n) (hn : n ≤ 64) (h0 : 0 < n) (w : World) :
    Calls Tryd.prog 22 #[.int .i64 (n : Int)] w (MadeInts L w) := by
  have HL := Lib.hid hL
  have HLN := Lib.hid hLn
  clear hL hLn
  go_enter Tryd.func22, Tryd.ntmps22
  go_wp2_with fail
  go_loopw [3, 4] (fun v pv wr => ∃ (f p : Nat) (o : List Nat), f + p = 402 ∧ 2 ≤ p ∧ pv = .int .i64 (p : Nat) ∧ Go.RowKit.Hid (pgo f p o n = L) ∧ o.length ≤ n ∧ Go.RowKit.Hid (∀ i, i < o.length → 2 ≤ o.getD i 0 ∧ o.getD i 0 < 1000) ∧ wr.ownsRow w.heap.size 3 1 v o.length (vals .i64 o) ∧ Below w.heap.size w wr) (fun _ pv _ => 402 - (intOf pv).toNat)
  case atStart => exact ⟨400, 2, [], by omega, by omega, rfl, HL, by simp, Lib.hid (by simp), World.ownsRow_nil _ _ _ _, Below.refl _ _⟩
  case round =>
    clear HL
    obtain ⟨f, p, o, hfp, hp2, rfl, HG, hon, HE, hown, hbel⟩ := hrel
    have HO := Lib.hid hown
    have HB := Lib.hid hbel
    have hsz := hbel.size
    obtain ⟨A, c, rfl, hA⟩ := owns_ints hown
    have HA := Lib.hid hA
    clear hown hbel hA
    generalize wr = wo at *
    by_cases hlt : o.length < n
    · obtain ⟨f', rfl⟩ : ∃ f', f = f' + 1 := by
        rcases Nat.eq_zero_or_pos f with h | h
        · subst h
          have := HG.out
          rw [pgo] at this
          have := HLN.out
          subst_vars
          omega
        · exact ⟨f - 1, by omega⟩
      have hg := HG.out
      rw [pgo, if_pos hlt] at hg
      have HG2 := Lib.hid hg
      obtain ⟨ol, eol⟩ : ∃ ol, ol = o.length := ⟨_, rfl⟩
      rw [← eol] at hlt HO HA hon ⊢
      have EOL := Lib.hid eol
      have t1 : decide ((ol : Int) < (n : Int)) = true := by simp; omega
      clear hg HG eol
      go_wp2_with fail
      go_loop [5, 6] (fun v i => ∃ i0 : Nat, i0 ≤ ol ∧ i = .int .i64 (i0 : Nat) ∧ v = .bool (isP p (o.take i0))) (fun _ i => ol - (intOf i).toNat)
      case atStart => exact ⟨0, by omega, rfl, rfl⟩
      case round =>
        obtain ⟨i, hi, rfl, rfl⟩ := hrel
        by_cases hil : i < ol
        · have t2 : decide ((i : Int) < (ol : Int)) = true := by simp; omega
          have ti : (i : Int) < (ol : Int) := by omega
          obtain ⟨g, rfl, hT⟩ := HA.out (by omega)
          have ci := hT i (by have := EOL.out; omega)
          have he := HE.out i (by have := EOL.out; omega)
          have HS := Lib.hid (isP_snoc p o i (by have := EOL.out; omega))
          clear hT
          generalize o.getD i 0 = x at *
          generalize isP p (o.take i) = bb at *
          have zx : ((x : Int) == 0) = false := by simp; omega
          have zx2 : ((x : Int) = 0) = False := by simp; omega
          obtain ⟨r, er⟩ : ∃ r, r = p % x := ⟨_, rfl⟩
          have f1 : (p : Int) % (x : Int) = (r : Int) := by rw [er]; simp
          have f2 : Int.tmod (p : Int) (x : Int) = (r : Int) := by rw [Int.tmod_eq_emod_of_nonneg (by omega)]; exact f1
          have hr : r < x := by rw [er]; exact Nat.mod_lt _ (by omega)
          rw [← er] at HS
          clear er
          by_cases hr0 : r = 0
          · subst hr0
            have HS2 : Go.RowKit.Hid (isP p (o.take (i + 1)) = false) := Lib.hid (by rw [HS.out]; simp)
            clear HS
            go_wp2
            go_round
            case rel => exact ⟨i + 1, by omega, by go_num, by rw [HS2.out]⟩
            case measure => simp [intOf]; omega
          · have zr : ((r : Int) == 0) = false := by simp; omega
            have HS2 : Go.RowKit.Hid (isP p (o.take (i + 1)) = bb) := Lib.hid (by rw [HS.out]; simp [hr0])
            clear HS
            go_wp2
            go_round
            case rel => exact ⟨i + 1, by omega, by go_num, by rw [HS2.out]⟩
            case measure => simp [intOf]; omega
        · obtain rfl : i = ol := by omega
          have t2 : decide ((i : Int) < (i : Int)) = false := by simp
          have eT : o.take i = o := List.take_of_length_le (by have := EOL.out; omega)
          rw [eT]
          clear eT
          cases hP : isP p o with
          | true =>
            rw [hP] at HG2
            simp only [if_true] at HG2
            have LN : Go.RowKit.Hid ((o ++ [p]).length = i + 1) := Lib.hid (by rw [List.length_append, ← EOL.out]; rfl)
            have HE2 : Go.RowKit.Hid (∀ j, j < (o ++ [p]).length → 2 ≤ (o ++ [p]).getD j 0 ∧ (o ++ [p]).getD j 0 < 1000) := Lib.hid (fun j hj => by
              rw [LN.out] at hj
              by_cases h : j < i
              · have := HE.out j (by rw [← EOL.out]; exact h)
                rw [List.getD_eq_getElem?_getD, List.getElem?_append_left (by rw [← EOL.out]; exact h)]
                rw [List.getD_eq_getElem?_getD] at this
                exact this
              · obtain rfl : j = i := by omega
                rw [List.getD_eq_getElem?_getD, List.getElem?_append_right (by rw [← EOL.out]; exact Nat.le_refl _), ← EOL.out, Nat.sub_self]
                simp; omega)
            clear hP
            go_wp2_with (at_builtin; refine append_one rfl (.tmp 27) (.tmp 29) 50 rfl w.heap.size 3 (.int .i64 0) 8 Tryd.underlying50 info_i64 rfl _ i _ (.int .i64 (p : Int)) rfl HO.out rfl rfl (by omega) (by omega) hsz ?_; intro v' w6 hown6 hbel6)
            rw [← vals_snoc] at hown6
            go_roundw
            case rel => exact ⟨f', p + 1, o ++ [p], by omega, by omega, by go_num, HG2, by rw [LN.out]; omega, HE2, by rw [LN.out]; exact hown6, HB.out.trans hbel6⟩
            case measure => simp [intOf]; omega
          | false =>
            rw [hP] at HG2
            simp only [Bool.false_eq_true, if_false] at HG2
            clear hP
            go_wp2
            go_roundw
            case rel => exact ⟨f', p + 1, o, by omega, by omega, by go_num, HG2, by rw [← EOL.out]; omega, HE, by rw [← EOL.out]; exact HO.out, HB.out⟩
            case measure => simp [intOf]; omega
    · have hol : o.length = n := by omega
      have hoL : o = L := by have := HG.out; rwa [pgo_none _ _ _ _ hlt] at this
      rw [hol] at HO ⊢
      rw [hoL] at HO
      have t1 : decide ((n : Int) < (n : Int)) = false := by simp
      obtain ⟨g, c', hv, hg, _, _, hH⟩ := holds_of_owns HO.out h0
      have HH := Lib.hid hH
      have HV := Lib.hid hv
      clear hH hv hol hoL HG HE HA
      go_wp2
      go_ret
      refine ⟨g, c, ?_, HH.out, hg, HB.out⟩
      have := HV.out
      simp only [Value.slice.injEq] at this
      rw [HLN.out, this.1]; rfl
end Go.Proofs.YtjcpnephgbehmaaDoor
