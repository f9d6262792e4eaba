/-
  What is done to a disk, as it came in, in memory; the contract of the law's Few. Conditions: the slice holds what is done.
-/
import Derived.Test.YtfjaiolgbcindaaDkMem
import Derived.Test.YtfjaiolgbcindaaChecked
import Derived.Lib.Hide
import Derived.Outline
namespace Go.Proofs.Ytfjaiolgbcindaa
open Go.RowKit Arr Dsk

/-- One thing that is done: its kind, its sector, its bytes, its list. -/
structure It where
  kind : Int
  sec : Int
  A : Option Addr
  c : Nat
  bs : List Nat
  KA : Option Addr
  kc : Nat
  kl : List Bool
/-- The slice at A holds them, in blocks below B. -/
structure Items (w : World) (B : Nat) (A : Option Addr) (its : List It) : Prop where
  cells : 0 < its.length → ∃ b off, A = some ⟨b, off, none⟩ ∧ b < B ∧ ∀ i (h : i < its.length), w.cell? ⟨b, off + i * 4, none⟩ = some (.int .i64 its[i].kind) ∧ w.cell? ⟨b, off + i * 4 + 1, none⟩ = some (.int .i64 its[i].sec) ∧
    w.cell? ⟨b, off + i * 4 + 2, none⟩ = some (.slice its[i].A its[i].bs.length its[i].c) ∧ w.cell? ⟨b, off + i * 4 + 3, none⟩ = some (.slice its[i].KA its[i].kl.length its[i].kc)
  each : ∀ i (h : i < its.length), its[i].bs.length ≤ its[i].c ∧ (its[i].A = none → its[i].c = 0) ∧ Bys w B its[i].A its[i].bs ∧ its[i].kl.length ≤ its[i].kc ∧ (its[i].KA = none → its[i].kc = 0) ∧ Bls w (fun b => b < B) its[i].KA its[i].kl ∧ (-9223372036854775808 ≤ its[i].sec ∧ its[i].sec ≤ 9223372036854775807)
theorem Bls.below {w w' : World} {B : Nat} {A : Option Addr} {l : List Bool} (h : Bls w (fun b => b < B) A l) (hb : Below B w w') : Bls w' (fun b => b < B) A l := fun hl => by
  obtain ⟨b, off, e, h1, h2, hc⟩ := h hl
  exact ⟨b, off, e, Nat.lt_of_lt_of_le h1 hb.size, h2, fun i hi => (hb.cell (p := ⟨b, off + i, none⟩) h2).trans (hc i hi)⟩
theorem Items.below {w w' : World} {B : Nat} {A : Option Addr} {its : List It} (h : Items w B A its) (hb : Below B w w') : Items w' B A its := by
  refine ⟨fun hp => ?_, fun i hi => ?_⟩
  · obtain ⟨b, off, e, hB, hc⟩ := h.cells hp
    have c : ∀ j, w'.cell? ⟨b, j, none⟩ = w.cell? ⟨b, j, none⟩ := fun j => hb.cell (p := ⟨b, j, none⟩) hB
    refine ⟨b, off, e, hB, fun i hi => ?_⟩
    obtain ⟨h1, h2, h3, h4⟩ := hc i hi
    exact ⟨(c _).trans h1, (c _).trans h2, (c _).trans h3, (c _).trans h4⟩
  · obtain ⟨h1, h2, h3, h4, h5, h6, h7⟩ := h.each i hi
    exact ⟨h1, h2, h3.below hb, h4, h5, h6.below hb, h7⟩
def FewD (its : List It) : Prop := its.length ≤ 60 ∧ ∀ i (h : i < its.length), its[i].bs.length ≤ 300 ∧ its[i].kl.length ≤ 60
/-- What Few leaves. -/
def FewP (its : List It) (w : World) (en : Ending) (w' : World) : Prop := ∃ b : Bool, en = .returned (.bool b) ∧ (b = true ↔ FewD its) ∧ Below w.heap.size w w'
set_option maxHeartbeats 1000000 in
theorem few_any (w : World) (A : Option Addr) (c N : Nat) (its : List It) (hN : its.length = N) (h : Items w w.heap.size A its) (hs : N ≤ 9223372036854775807) :
    Calls Try.prog 7 #[.slice A N c] w (FewP its w) := by
  have HI := Lib.hid h
  have HN := Lib.hid hN
  clear h hN
  go_enter Try.func7, Try.ntmps7
  go_wp2
  go_loopw [7] (fun i wr => ∃ k : Nat, k ≤ N ∧ i = .int .i64 k ∧ (∀ j (hj : j < its.length), j < k → its[j].bs.length ≤ 300 ∧ its[j].kl.length ≤ 60) ∧ Below w.heap.size w wr) (fun i _ => N - (intOf i).toNat)
  case atStart => exact ⟨0, Nat.zero_le _, rfl, fun j _ hj => absurd hj (Nat.not_lt_zero _), Below.refl _ _⟩
  case round =>
    obtain ⟨k, hk, rfl, hall, hB⟩ := hrel
    have HALL := Lib.hid hall
    have HB := Lib.hid hB
    by_cases hlt : k < N
    · have hki : k < its.length := by rw [HN.out]; exact hlt
      obtain ⟨b, off, rfl, hb, hc⟩ := (HI.out.below hB).cells (by omega)
      obtain ⟨q0, q1, q2, q3⟩ := hc k hki
      have t1 : decide ((k : Int) < (N : Int)) = true := by simp; omega
      have HK := Lib.hid (show its[k].bs.length ≤ 300 → its[k].kl.length ≤ 60 → ∀ j (hj : j < its.length), j < k + 1 → its[j].bs.length ≤ 300 ∧ its[j].kl.length ≤ 60 from fun h0 h1 j hj hjk => by
        by_cases e : j = k
        · subst e; exact ⟨h0, h1⟩
        · exact HALL.out j hj (by omega))
      have HF := Lib.hid (show 300 < its[k].bs.length → ¬ FewD its from fun h0 hf => by have := (hf.2 k hki).1; omega)
      have HF2 := Lib.hid (show 60 < its[k].kl.length → ¬ FewD its from fun h0 hf => by have := (hf.2 k hki).2; omega)
      have wk : IntKind.i64.wrap ((k : Int) + 1) = (k : Int) + 1 := by rw [IntKind.wrap_i64]; omega
      clear hc hB hall
      generalize its[k].bs.length = L at *
      generalize its[k].kl.length = M at *
      generalize its[k].kind = x0 at *
      generalize its[k].sec = x1 at *
      generalize its[k].A = x3 at *
      generalize its[k].c = x4 at *
      generalize its[k].KA = x5 at *
      generalize its[k].kc = x6 at *
      by_cases hL : 300 < L
      · have t2 : decide ((L : Int) > 300) = true := by simp; omega
        go_wp2
        go_ret
        exact ⟨false, rfl, ⟨(fun h => by cases h), fun h => absurd h (HF.out hL)⟩, HB.out.alloc HB.out.size _⟩
      · have t2 : decide ((L : Int) > 300) = false := by simp; omega
        by_cases hM : 60 < M
        · have t3 : decide ((M : Int) > 60) = true := by simp; omega
          go_wp2
          go_ret
          exact ⟨false, rfl, ⟨(fun h => by cases h), fun h => absurd h (HF2.out hM)⟩, HB.out.alloc HB.out.size _⟩
        · have t3 : decide ((M : Int) > 60) = false := by simp; omega
          go_wp2
          go_roundw
          case rel => exact ⟨k + 1, by omega, by go_num, HK.out (by omega) (by omega), HB.out.alloc HB.out.size _⟩
          case measure => simp [intOf]; omega
    · obtain rfl : k = N := by omega
      have t1 : decide ((k : Int) < (k : Int)) = false := by simp
      clear hall hB
      by_cases h30 : k ≤ 60
      · have t2 : decide ((k : Int) ≤ 60) = true := by simp; omega
        have HF := Lib.hid (show FewD its from ⟨by have := HN.out; omega, fun j hj => HALL.out j hj (by have := HN.out; omega)⟩)
        go_wp2
        go_ret
        exact ⟨true, rfl, ⟨fun _ => HF.out, fun _ => rfl⟩, HB.out⟩
      · have t2 : decide ((k : Int) ≤ 60) = false := by simp; omega
        have HF := Lib.hid (show ¬ FewD its from fun hf => by have := hf.1; have := HN.out; omega)
        go_wp2
        go_ret
        exact ⟨false, rfl, ⟨(fun h => by cases h), fun h => absurd h HF.out⟩, HB.out⟩
end Go.Proofs.Ytfjaiolgbcindaa
