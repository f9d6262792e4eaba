/-
  Items that come in, in memory, and the contract of the law's few. Conditions: the slice holds its items.
-/
import Derived.Test.YthnndklaefnpcaaDoorFdOut
import Derived.Test.YthnndklaefnpcaaDoorFdRefAll
namespace Go.Proofs.YthnndklaefnpcaaDoor
open Go.RowKit Arr Fld

/-- The slice at A holds the items, in blocks below B. -/
structure Items (w : World) (B : Nat) (A : Option Addr) (its : List It) : Prop where
  cells : 0 < its.length → ∃ b off, A = some ⟨b, off, none⟩ ∧ b < B ∧ ∀ i (h : i < its.length), w.cell? ⟨b, off + i * 4, none⟩ = some (.int .i64 its[i].kind) ∧ w.cell? ⟨b, off + i * 4 + 1, none⟩ = some (.int .i64 its[i].n) ∧
    w.cell? ⟨b, off + i * 4 + 2, none⟩ = some (.int .i64 its[i].size) ∧ w.cell? ⟨b, off + i * 4 + 3, none⟩ = some (.slice its[i].A its[i].bs.length its[i].c)
  each : ∀ i (h : i < its.length), its[i].bs.length ≤ its[i].c ∧ (its[i].A = none → its[i].c = 0) ∧ Bys w B its[i].A its[i].bs
theorem Items.below {w w' : World} {B : Nat} {A : Option Addr} {its : List It} (h : Items w B A its) (hb : Below B w w') : Items w' B A its := by
  refine ⟨fun hp => ?_, fun i hi => ?_⟩
  · obtain ⟨b, off, e, hB, hc⟩ := h.cells hp
    have c : ∀ j, w'.cell? ⟨b, j, none⟩ = w.cell? ⟨b, j, none⟩ := fun j => hb.cell (p := ⟨b, j, none⟩) hB
    refine ⟨b, off, e, hB, fun i hi => ?_⟩
    obtain ⟨h1, h2, h3, h4⟩ := hc i hi
    exact ⟨(c _).trans h1, (c _).trans h2, (c _).trans h3, (c _).trans h4⟩
  · obtain ⟨h1, h2, h3⟩ := h.each i hi
    exact ⟨h1, h2, h3.below hb⟩

/-- What few leaves. -/
def FewP (its : List It) (w : World) (en : Ending) (w' : World) : Prop := ∃ b : Bool, en = .returned (.bool b) ∧ (b = true ↔ Few its) ∧ Below w.heap.size w w'
set_option maxHeartbeats 1000000 in
theorem few_any (w : World) (A : Option Addr) (c N : Nat) (its : List It) (hN : its.length = N) (h : Items w w.heap.size A its) (hs : N ≤ 9223372036854775807) :
    Calls Tryd.prog 6 #[.slice A N c] w (FewP its w) := by
  have HI := Lib.hid h
  have HN := Lib.hid hN
  clear h hN
  go_enter Tryd.func6, Tryd.ntmps6
  go_wp2
  go_loopw [7] (fun i wr => ∃ k : Nat, k ≤ N ∧ i = .int .i64 k ∧ (∀ j (hj : j < its.length), j < k → its[j].bs.length ≤ 100) ∧ Below w.heap.size w wr) (fun i _ => N - (intOf i).toNat)
  case atStart => exact ⟨0, Nat.zero_le _, rfl, fun j _ hj => absurd hj (Nat.not_lt_zero _), Below.refl _ _⟩
  case round =>
    obtain ⟨k, hk, rfl, hall, hB⟩ := hrel
    have HALL := Lib.hid hall
    have HB := Lib.hid hB
    by_cases hlt : k < N
    · have hki : k < its.length := by rw [HN.out]; exact hlt
      obtain ⟨b, off, rfl, hb, hc⟩ := (HI.out.below hB).cells (by omega)
      obtain ⟨q0, q1, q2, q3⟩ := hc k hki
      have t1 : decide ((k : Int) < (N : Int)) = true := by simp; omega
      have HK := Lib.hid (show its[k].bs.length ≤ 100 → ∀ j (hj : j < its.length), j < k + 1 → its[j].bs.length ≤ 100 from fun h0 j hj hjk => by
        by_cases e : j = k
        · subst e; exact h0
        · exact HALL.out j hj (by omega))
      have HF := Lib.hid (show 100 < its[k].bs.length → ¬ Few its from fun h0 hf => by have := hf.2 k hki; omega)
      have wk : IntKind.i64.wrap ((k : Int) + 1) = (k : Int) + 1 := by rw [IntKind.wrap_i64]; omega
      clear hc hB hall
      generalize its[k].bs.length = L at *
      generalize its[k].kind = x0 at *
      generalize its[k].n = x1 at *
      generalize its[k].size = x2 at *
      generalize its[k].A = x3 at *
      generalize its[k].c = x4 at *
      by_cases hL : 100 < L
      · have t2 : decide ((L : Int) > 100) = true := by simp; omega
        go_wp2
        go_ret
        exact ⟨false, rfl, ⟨(fun h => by cases h), fun h => absurd h (HF.out hL)⟩, HB.out.alloc HB.out.size _⟩
      · have t2 : decide ((L : Int) > 100) = false := by simp; omega
        go_wp2
        go_roundw
        case rel => exact ⟨k + 1, by omega, by go_num, HK.out (by omega), HB.out.alloc HB.out.size _⟩
        case measure => simp [intOf]; omega
    · obtain rfl : k = N := by omega
      have t1 : decide ((k : Int) < (k : Int)) = false := by simp
      clear hall hB
      by_cases h30 : k ≤ 30
      · have t2 : decide ((k : Int) ≤ 30) = true := by simp; omega
        have HF := Lib.hid (show Few its from ⟨by have := HN.out; omega, fun j hj => HALL.out j hj (by have := HN.out; omega)⟩)
        have HX := Lib.hid (show Ending.returned (Value.bool (decide ((k : Int) ≤ 30))) = .returned (.bool true) by rw [t2])
        go_wp2
        go_ret
        exact ⟨true, rfl, ⟨fun _ => HF.out, fun _ => rfl⟩, HB.out⟩
      · have t2 : decide ((k : Int) ≤ 30) = false := by simp; omega
        have HF := Lib.hid (show ¬ Few its from fun hf => by have := hf.1; have := HN.out; omega)
        go_wp2
        go_ret
        exact ⟨false, rfl, ⟨(fun h => by cases h), fun h => absurd h HF.out⟩, HB.out⟩

/-- What write leaves: both writers, beside each other. -/
def WriteP (its : List It) (w : World) (en : Ending) (w' : World) : Prop :=
  ∃ g g2 F F2, en = .returned (.tuple #[.pointer (some ⟨g, 0, none⟩), .pointer (some ⟨g2, 0, none⟩)]) ∧ Wtr w' g F (wAll its) ∧ RWtr w' g2 F2 (wAll its) ∧ w.heap.size ≤ g ∧ w.heap.size ≤ g2 ∧ (∀ k, F k → F2 k → False) ∧ Below w.heap.size w w'
/-- What stands on the way. -/
structure Both (w0 : World) (g g2 : Nat) (s : List Nat × Nat) (w : World) : Prop where
  both : ∃ F F2, Wtr w g F s ∧ RWtr w g2 F2 s ∧ ∀ k, F k → F2 k → False
  lo : w0.heap.size ≤ g
  lo2 : w0.heap.size ≤ g2
  bel : Below w0.heap.size w0 w
section
variable {w0 w w' : World} {g g2 : Nat} {s s' : List Nat × Nat}
theorem Both.later (h : Both w0 g g2 s w) (hb : Below w.heap.size w w') : Both w0 g g2 s w' := by
  obtain ⟨F, F2, h1, h2, h3⟩ := h.both
  exact ⟨⟨F, F2, h1.below hb, h2.below hb, h3⟩, h.lo, h.lo2, h.bel.trans (hb.mono h.bel.size)⟩
/-- The four cells of the item that is gone through. -/
def Cell4 (w : World) (b : Nat) (x0 x1 x2 : Int) (v : Value) : Prop := w.cell? ⟨b, 0, none⟩ = some (.int .i64 x0) ∧ w.cell? ⟨b, 1, none⟩ = some (.int .i64 x1) ∧ w.cell? ⟨b, 2, none⟩ = some (.int .i64 x2) ∧ w.cell? ⟨b, 3, none⟩ = some v
theorem Cell4.new (w : World) (x0 x1 x2 : Int) (v : Value) : Cell4 (w.alloc (.cells #[.int .i64 x0, .int .i64 x1, .int .i64 x2, v] 44)) w.heap.size x0 x1 x2 v := by
  have hlast := heap_alloc_last w (.cells #[.int .i64 x0, .int .i64 x1, .int .i64 x2, v] 44)
  exact ⟨by rw [cell_of_row _ _ _ _ _ _ hlast]; rfl, by rw [cell_of_row _ _ _ _ _ _ hlast]; rfl, by rw [cell_of_row _ _ _ _ _ _ hlast]; rfl, by rw [cell_of_row _ _ _ _ _ _ hlast]; rfl⟩
theorem Cell4.touch {F : Nat → Prop} {b : Nat} {x0 x1 x2 : Int} {v : Value} (h : Cell4 w b x0 x1 x2 v) (ht : Touch F w w') (hn : ¬ F b) : Cell4 w' b x0 x1 x2 v := by
  have hl : b < w.heap.size := lt_of_cell h.1
  exact ⟨(ht.cell (p := ⟨b, 0, none⟩) hl hn).trans h.1, (ht.cell (p := ⟨b, 1, none⟩) hl hn).trans h.2.1, (ht.cell (p := ⟨b, 2, none⟩) hl hn).trans h.2.2.1, (ht.cell (p := ⟨b, 3, none⟩) hl hn).trans h.2.2.2⟩
theorem Both.first {F F2 : Nat → Prop} {b : Nat} {x0 x1 x2 : Int} {v : Value} (h : Both w0 g g2 s w) (h1 : Wtr w g F s) (h2 : RWtr w g2 F2 s) (h3 : ∀ k, F k → F2 k → False) (hc : Cell4 w b x0 x1 x2 v) (hb : ¬ F b) {en : Ending} (hw : WrtP g F s' w en w') :
    en = .returned (.tuple #[]) ∧ (∃ F', Wtr w' g F' s' ∧ RWtr w' g2 F2 s ∧ (∀ k, F' k → F2 k → False)) ∧ Below w0.heap.size w0 w' ∧ Cell4 w' b x0 x1 x2 v ∧ Touch F w w' := by
  obtain ⟨e1, F', e2, e3, e4⟩ := hw
  exact ⟨e1, ⟨F', e2, h2.touch e3 (fun k hk hx => h3 k hx hk), fun k hk hx => (e4 k hk).elim (fun h5 => h3 k h5 hx) (fun h5 => by have := (h2.lt k hx).2; omega)⟩, h.bel.trans (e3.below (B := w0.heap.size) (fun k hk => Nat.le_trans h.lo (h1.lt k hk).1) h.bel.size), hc.touch e3 hb, e3⟩
theorem Both.second {F F2 : Nat → Prop} (hlo : w0.heap.size ≤ g) (hlo2 : w0.heap.size ≤ g2) (hbel : Below w0.heap.size w0 w) (h1 : Wtr w g F s') (h2 : RWtr w g2 F2 s) (h3 : ∀ k, F k → F2 k → False) {en : Ending} (hw : RWrtP g2 F2 s' w en w') : en = .returned (.tuple #[]) ∧ Both w0 g g2 s' w' := by
  obtain ⟨e1, F', e2, e3, e4⟩ := hw
  refine ⟨e1, ⟨F, F', h1.touch e3 (fun k hk hx => h3 k hk hx), e2, fun k hk hx => (e4 k hx).elim (fun h5 => h3 k hk h5) (fun h5 => by have := (h1.lt k hk).2; omega)⟩, hlo, hlo2, hbel.trans (e3.below (B := w0.heap.size) (fun k hk => Nat.le_trans hlo2 (h2.lt k hk).1) hbel.size)⟩
end
end Go.Proofs.YthnndklaefnpcaaDoor
