/-
  What is done to a pool, in memory as it came in; contracts of the law's few and awake. Condition: the slices hold what they hold.
-/
import Derived.Test.YtjeiechkndfhmaaExFew
import Derived.Test.YtjeiechkndfhmaaExSecs
import Derived.Test.YtjeiechkndfhmaaAlNew
import Derived.Test.YtjeiechkndfhmaaAlDo
namespace Go.Proofs.Ytjeiechkndfhmaa
open Go.RowKit Arr Ex

/-- One thing that is done. -/
structure Dd where
  kind : Int
  n : Int
  A : Option Addr
  c : Nat
  l : List (Int × Int)
structure DoOk (w : World) (B : Nat) (d : Dd) : Prop where
  ex : Exts w B d.A d.l
  le : d.l.length ≤ d.c
  no : d.A = none → d.c = 0
  n64 : -9223372036854775808 ≤ d.n ∧ d.n ≤ 9223372036854775807
structure Dds (w : World) (B : Nat) (A : Option Addr) (ds : List Dd) : Prop where
  cells : 0 < ds.length → ∃ b off, A = some ⟨b, off, none⟩ ∧ b < B ∧ ∀ i (h : i < ds.length), w.cell? ⟨b, off + i * 3, none⟩ = some (.int .i64 ds[i].kind) ∧ w.cell? ⟨b, off + i * 3 + 1, none⟩ = some (.int .i64 ds[i].n) ∧ w.cell? ⟨b, off + i * 3 + 2, none⟩ = some (.slice ds[i].A ds[i].l.length ds[i].c)
  ok : ∀ i (h : i < ds.length), DoOk w B ds[i]
theorem DoOk.below {w w' : World} {B : Nat} {d : Dd} (h : DoOk w B d) (hb : Below B w w') : DoOk w' B d := ⟨h.ex.below hb, h.le, h.no, h.n64⟩
theorem Dds.below {w w' : World} {B : Nat} {A : Option Addr} {ds : List Dd} (h : Dds w B A ds) (hb : Below B w w') : Dds w' B A ds :=
  ⟨fun hp => by
    obtain ⟨b, off, e, hB, hc⟩ := h.cells hp
    exact ⟨b, off, e, hB, fun i hi => ⟨(hb.cell (p := ⟨b, _, none⟩) hB).trans (hc i hi).1, (hb.cell (p := ⟨b, _, none⟩) hB).trans (hc i hi).2.1, (hb.cell (p := ⟨b, _, none⟩) hB).trans (hc i hi).2.2⟩⟩, fun i hi => (h.ok i hi).below hb⟩
/-- The three cells of one, at its place. -/
theorem Dds.at {w : World} {B : Nat} {A : Option Addr} {ds : List Dd} (h : Dds w B A ds) (k : Nat) (hk : k < ds.length) :
    ∃ b off kd n A' c l, A = some ⟨b, off, none⟩ ∧ b < B ∧ ds[k] = ⟨kd, n, A', c, l⟩ ∧ w.cell? ⟨b, off + k * 3, none⟩ = some (.int .i64 kd) ∧ w.cell? ⟨b, off + k * 3 + 1, none⟩ = some (.int .i64 n) ∧ w.cell? ⟨b, off + k * 3 + 2, none⟩ = some (.slice A' l.length c) ∧
      Exts w B A' l ∧ l.length ≤ c ∧ (A' = none → c = 0) ∧ (-9223372036854775808 ≤ n ∧ n ≤ 9223372036854775807) := by
  obtain ⟨b, off, e, hB, hc⟩ := h.cells (by omega)
  obtain ⟨q0, q1, q2⟩ := hc k hk
  have hok := h.ok k hk
  exact ⟨b, off, ds[k].kind, ds[k].n, ds[k].A, ds[k].c, ds[k].l, e, hB, rfl, q0, q1, q2, hok.ex, hok.le, hok.no, hok.n64⟩
/-- The law's few. -/
def FewD (s n : Int) (ds : List Dd) : Prop := (n < 0 ∨ n ≤ 100) ∧ s ≤ 100 ∧ ds.length ≤ 30 ∧ ∀ d, d ∈ ds → FewE d.l
def FewQ (s n : Int) (ds : List Dd) (w : World) (en : Ending) (w' : World) : Prop := ∃ b : Bool, en = .returned (.bool b) ∧ (b = true ↔ FewD s n ds) ∧ Below w.heap.size w w'
set_option maxRecDepth 100000 in
set_option maxHeartbeats 4000000 in
theorem fewd_any (w : World) (s n : Int) (A : Option Addr) (N c : Nat) (ds : List Dd) (hN : ds.length = N) (hm : N ≤ 9223372036854775807) (hx : Dds w w.heap.size A ds) :
    Calls Try.prog 6 #[.int .i64 s, .int .i64 n, .slice A N c] w (FewQ s n ds w) := by
  have HN := Lib.hid hN
  have HX := Lib.hid hx
  clear hN hx
  go_enter Try.func6, Try.ntmps6
  go_wp2
  go_loopw [11] (fun i wr => ∃ k : Nat, k ≤ N ∧ i = .int .i64 (k : Int) ∧ (∀ d, d ∈ ds.take k → FewE d.l) ∧ Below w.heap.size w wr) (fun i _ => N - (intOf i).toNat)
  case atStart => exact ⟨0, Nat.zero_le _, rfl, fun d h => by simp at h, Below.refl _ _⟩
  case round =>
    obtain ⟨k, hk, rfl, hall, hB⟩ := hrel
    have HALL := Lib.hid hall
    have HB := Lib.hid hB
    by_cases hlt : k < N
    · have hki : k < ds.length := by rw [HN.out]; exact hlt
      obtain ⟨b, off, kd, nd, A', c', l, rfl, hb, hd, q0, q1, q2, hex, _⟩ := (HX.out.below hB).at k hki
      have t1 : decide ((k : Int) < (N : Int)) = true := by simp; omega
      have wk : IntKind.i64.wrap ((k : Int) + 1) = (k : Int) + 1 := by rw [IntKind.wrap_i64]; omega
      have TK := Lib.hid (show ds.take (k + 1) = ds.take k ++ [ds[k]] by rw [List.take_add_one, List.getElem?_eq_getElem hki]; rfl)
      have HM := Lib.hid (show ds[k] ∈ ds from List.getElem_mem hki)
      obtain ⟨w1, hw1⟩ : ∃ w1, w1 = wr.alloc (.cells #[.int .i64 kd, .int .i64 nd, .slice A' l.length c'] 39) := ⟨_, rfl⟩
      obtain ⟨w2, hw2⟩ : ∃ w2, w2 = w1.alloc (.cells #[.slice A' l.length c'] 23) := ⟨_, rfl⟩
      have hb1 : Below wr.heap.size wr w1 := hw1 ▸ below_alloc wr _
      have hs1 : w1.heap.size = wr.heap.size + 1 := by rw [hw1]; simp
      have hb2 : Below w1.heap.size w1 w2 := hw2 ▸ below_alloc w1 _
      have hs2 : w2.heap.size = w1.heap.size + 1 := by rw [hw2]; simp
      have hsz := hB.size
      have CF := Lib.hid (few_any w2 w1.heap.size 1 [⟨A', c', l⟩] rfl (by omega) (by omega) (fun i p hp => by
        match i with
        | 0 => simp at hp; subst hp; rw [hw2, World.cell?_alloc_new]; rfl
        | i + 1 => simp at hp) (fun p hp => by rw [List.mem_singleton] at hp; subst hp; exact ((hex.below (hb1.mono hsz)).below (hb2.mono (by omega))).more (by omega)))
      have HB2 := Lib.hid (HB.out.trans ((hb1.trans (hb2.mono (by omega))).mono hsz))
      have HD := Lib.hid hd
      clear hall hB hex hb1 hb2 hd
      generalize l.length = L at *
      go_wp2_with fail
      rw [← hw1]
      have e1 : (w1.alloc (.cells #[.slice A' L c'] 23)) = w2 := hw2.symm
      rw [← hs1, e1]
      refine CF.out.mono ?_
      rintro e w3 ⟨fb, rfl, hf, hb3⟩
      have HB3 := Lib.hid (HB2.out.trans (hb3.mono HB2.out.size))
      have HF := Lib.hid (show fb = true ↔ FewE l from hf.trans ⟨fun h => h _ (List.mem_singleton.2 rfl), fun h p hp => by rw [List.mem_singleton] at hp; subst hp; exact h⟩)
      clear hf hb3 CF
      cases fb with
      | true =>
        go_wp2
        go_roundw
        case rel =>
          refine ⟨k + 1, by omega, by simp, fun d hdm => ?_, HB3.out⟩
          rw [TK.out] at hdm
          rcases List.mem_append.1 hdm with h1 | h1
          · exact HALL.out d h1
          · rw [List.mem_singleton] at h1
            subst h1
            rw [HD.out]
            exact HF.out.1 (by simp)
        case measure => simp [intOf]; omega
      | false =>
        have HQ := Lib.hid (show FewQ s n ds w (.returned (.bool false)) w3 from ⟨false, rfl, ⟨fun h => (by cases h), fun h => absurd (HF.out.2 (by have := h.2.2.2 _ HM.out; rw [HD.out] at this; exact this)) (by simp)⟩, HB3.out⟩)
        go_wp2
        go_ret
        exact HQ.out
    · obtain rfl : k = N := by omega
      have t1 : decide ((k : Int) < (k : Int)) = false := by simp
      have HA := Lib.hid (show ∀ d, d ∈ ds → FewE d.l from fun d hd => HALL.out d (by rw [← HN.out, List.take_length]; exact hd))
      have HQ := Lib.hid (show ∀ b : Bool, (b = true ↔ ((n < 0 ∨ n ≤ 100) ∧ s ≤ 100 ∧ k ≤ 30)) → FewQ s n ds w (.returned (.bool b)) wr from fun b hb => ⟨b, rfl, hb.trans ⟨fun ⟨h1, h2, h3⟩ => ⟨h1, h2, by rw [HN.out]; exact h3, HA.out⟩, fun ⟨h1, h2, h3, _⟩ => ⟨h1, h2, by rw [← HN.out]; exact h3⟩⟩, HB.out⟩)
      clear hall hB
      by_cases h0 : n < 0
      · have u0 : decide (n < 0) = true := by simpa using h0
        by_cases h2 : s ≤ 100
        · have u2 : decide (s ≤ 100) = true := by simpa using h2
          have HF := Lib.hid (HQ.out (decide ((k : Int) ≤ 30)) (by simp; omega))
          go_wp2
          go_ret
          exact HF.out
        · have u2 : decide (s ≤ 100) = false := by simpa using h2
          have HF := Lib.hid (HQ.out false (by simp; omega))
          go_wp2
          go_ret
          exact HF.out
      · have u0 : decide (n < 0) = false := by simpa using h0
        by_cases h1 : n ≤ 100
        · have u1 : decide (n ≤ 100) = true := by simpa using h1
          by_cases h2 : s ≤ 100
          · have u2 : decide (s ≤ 100) = true := by simpa using h2
            have HF := Lib.hid (HQ.out (decide ((k : Int) ≤ 30)) (by simp; omega))
            go_wp2
            go_ret
            exact HF.out
          · have u2 : decide (s ≤ 100) = false := by simpa using h2
            have HF := Lib.hid (HQ.out false (by simp; omega))
            go_wp2
            go_ret
            exact HF.out
        · have u1 : decide (n ≤ 100) = false := by simpa using h1
          have HF := Lib.hid (HQ.out false (by simp; omega))
          go_wp2
          go_ret
          exact HF.out
end Go.Proofs.Ytjeiechkndfhmaa
