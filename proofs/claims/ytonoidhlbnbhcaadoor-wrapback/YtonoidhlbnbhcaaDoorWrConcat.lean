/-
  Contracts of slices.Clone, slices.Grow of nil, slices.Concat of two: a new text. Conditions: the slices hold their bytes.
-/
import Derived.Test.YtonoidhlbnbhcaaDoorWCut
import Derived.Test.YtonoidhlbnbhcaaDoorOwnArr
import Derived.Lib.AppendZeros
namespace Go.Proofs.YtonoidhlbnbhcaaDoor
open Go.RowKit Arr

/-- A call that makes the bytes l in a block of their own. -/
def Fresh (l : List Nat) (w : World) (e : Ending) (w' : World) : Prop :=
  ∃ g c, e = .returned (.slice (some ⟨g, 0, none⟩) l.length c) ∧ w.heap.size ≤ g ∧ l.length ≤ c ∧ Holds w' g .u8 l ∧ Below w.heap.size w w'

theorem fresh_of_owns {w w' : World} {v : Value} {n : Nat} {l : List Nat} (h : w'.ownsRow w.heap.size 5 1 v n (vals .u8 l)) (hn : 0 < n) (hb : Below w.heap.size w w') : Fresh l w (.returned v) w' := by
  obtain ⟨g, c, rfl, h1, h2, h3, h4⟩ := holds_of_owns h hn
  subst h3
  exact ⟨g, c, rfl, h1, h2, h4, hb⟩

theorem sclone_any (ad : Addr) (n c : Nat) (bs : List Nat) (hl : bs.length = n) (hn0 : 0 < n) (hn : n ≤ 4096) (w : World) (B : Nat) (hB : B ≤ w.heap.size) (hb : Bys w B (some ad) bs) :
    Calls Tryd.prog 20 #[.slice (some ad) n c] w (Fresh bs w) := by
  have hnil := fun (wx : World) => Lib.run_eql_slice_nil (P := Tryd.prog) wx 22 5 (some ad) n c 0 0 Tryd.underlying22
  have HB := Lib.hid hb; clear hb
  have HL := Lib.hid hl; clear hl
  go_enter Tryd.func20, Tryd.ntmps20
  go_wp2_with (at_builtin; refine append_bys rfl (.tmp 5) (.tmp 6) 22 rfl w.heap.size 5 Tryd.underlying22 info_u8 (.slice (some ⟨w.heap.size, 0, none⟩) 0 0) 0 [] rfl (empty_owns w) (some ad) n c bs rfl (fun h => by cases h) HL.out B (HB.out.below ((Below.refl _ _).alloc hB _)) (by omega) (by simp) (by simp) ?_; intro v' w1 hown hv hbel)
  rw [List.nil_append, Nat.zero_add] at hown
  have HF := Lib.hid (fresh_of_owns hown hn0 (((Below.refl w.heap.size w).alloc (Nat.le_refl _) (.cells #[] 5)).trans hbel))
  clear hown hv hbel
  go_wp2
  go_ret
  exact HF.out

/-- What Grow(nil, n) leaves: an empty row with room. -/
def Roomy (w : World) (e : Ending) (w' : World) : Prop :=
  ∃ v, e = .returned v ∧ v ≠ .slice none 0 0 ∧ w'.ownsRow w.heap.size 5 1 v 0 (vals .u8 []) ∧ Below w.heap.size w w'
theorem grow_nil (n : Nat) (hn0 : 0 < n) (hn : n ≤ 4096) (w : World) :
    Calls Tryd.prog 30 #[.slice none 0 0, .int .i64 (n : Int)] w (Roomy w) := by
  obtain ⟨i0, hi, hz0, hz1, hz2⟩ := info_parts info_u8
  have hr := Lib.run_append_nil_zeros (P := Tryd.prog) w 22 3 22 5 i0 (.int .u8 0) .i64 .i64 Tryd.underlying22 Tryd.underlying3 hi hz0 n hn0 (by omega) (by omega) (by rw [hz2]; omega)
  have hge := grownCap_ge w n 0 5
  have hcm := grownCap_le_maxLen w n 0 5 (by unfold maxLen; omega)
  have HO := Lib.hid (World.ownsRow_made w.drew (base := w.heap.size) (e := 5) (size := 1) (Builtin.zeroCells (Value.cells (.int .u8 0)) n ++ Builtin.zeroCells (Value.cells (.int .u8 0)) (grownCap w n 0 5 - n)) (grownCap w n 0 5) (Nat.le_refl _) hcm (by simp [Value.cells, size_zeroCells]; omega))
  have HB := Lib.hid ((below_drewN (Below.refl w.heap.size w) 1).alloc (Nat.le_refl _) (.cells (Builtin.zeroCells (Value.cells (.int .u8 0)) n ++ Builtin.zeroCells (Value.cells (.int .u8 0)) (grownCap w n 0 5 - n)) 5))
  generalize grownCap w n 0 5 = cap at *
  generalize Builtin.zeroCells (Value.cells (.int .u8 0)) n ++ Builtin.zeroCells (Value.cells (.int .u8 0)) (cap - n) = cs at *
  have HR := Lib.hid hr
  clear hr hi hz0 hz1 hz2 hge hcm
  have w1 : IntKind.i64.wrap (n : Int) = n := wrap_nat n (by omega)
  have t1 : decide ((n : Int) < 0) = false := by simp
  have t2 : decide ((n : Int) > 0) = true := by simp; omega
  have t3 : decide (0 < (n : Int)) = true := by simp; omega
  have t4 : 0 < (n : Int) := by omega
  go_enter Tryd.func30, Tryd.ntmps30
  go_wp2_with (at_builtin; refine Lib.wpList_append_run _ rfl (.tmp 20) (.tmp 21) _ _ rfl (.slice none 0 0) (.int .i64 (n : Int)) rfl rfl _ _ HR.out ?_)
  go_ret
  exact ⟨_, rfl, (by simp), HO.out, HB.out⟩

/-- The first k of two, one behind the other. -/
def cat2 (a b : List Nat) : Nat → List Nat
  | 0 => []
  | 1 => a
  | _ => a ++ b

set_option maxHeartbeats 2000000 in
theorem concat2 (gs : Nat) (A0 A1 : Option Addr) (n0 c0 n1 c1 : Nat) (a b : List Nat) (h0 : a.length = n0) (h1 : b.length = n1) (hs : 0 < n0) (hn0 : n0 ≤ 1000) (hn1 : n1 ≤ 1000) (hA0 : A0 = none → c0 = 0) (hA1 : A1 = none → c1 = 0)
    (w : World) (hc0 : w.cell? ⟨gs, 0, none⟩ = some (.slice A0 n0 c0)) (hc1 : w.cell? ⟨gs, 1, none⟩ = some (.slice A1 n1 c1)) (hb0 : Bys w w.heap.size A0 a) (hb1 : Bys w w.heap.size A1 b) :
    Calls Tryd.prog 14 #[.slice (some ⟨gs, 0, none⟩) 2 2] w (Fresh (a ++ b) w) := by
  have hgs : gs < w.heap.size := block_lt_of_cell hc0
  have H0 := Lib.hid h0
  have H1 := Lib.hid h1
  have HC0 := Lib.hid hc0
  have HC1 := Lib.hid hc1
  have HB0 := Lib.hid hb0
  have HB1 := Lib.hid hb1
  clear h0 h1 hb0 hb1
  have w0 : IntKind.i64.wrap (n0 : Int) = n0 := wrap_nat n0 (by omega)
  have w1 : IntKind.i64.wrap ((n0 : Int) + (n1 : Int)) = (n0 : Int) + n1 := by rw [IntKind.wrap_i64]; omega
  have t0 : decide ((n0 : Int) < 0) = false := by simp
  have t1 : decide ((n0 : Int) + (n1 : Int) < 0) = false := by simp; omega
  have CG := Lib.hid (fun w' => grow_nil (n0 + n1) (by omega) (by omega) w')
  go_enter Tryd.func14, Tryd.ntmps14
  go_wp2
  go_loop [3, 11] (fun s i => (i = .int .i64 0 ∧ s = .int .i64 0) ∨ (i = .int .i64 1 ∧ s = .int .i64 (n0 : Int)) ∨ (i = .int .i64 2 ∧ s = .int .i64 ((n0 : Int) + n1))) (fun _ i => 2 - (intOf i).toNat)
  case atStart => exact .inl ⟨rfl, rfl⟩
  case round =>
    rcases hrel with ⟨rfl, rfl⟩ | ⟨rfl, rfl⟩ | ⟨rfl, rfl⟩
    · go_wp2
      go_round
      case rel => exact .inr (.inl ⟨rfl, by first | rfl | go_num⟩)
      case measure => simp [intOf]
    · go_wp2
      go_round
      case rel => exact .inr (.inr ⟨rfl, by first | rfl | go_num⟩)
      case measure => simp [intOf]
    · go_wp2_with fail
      refine (CG.out w).mono ?_
      rintro e w2 ⟨v, rfl, hv, hown, hbel⟩
      have HV := Lib.hid hv
      have HO := Lib.hid hown
      have HBE := Lib.hid hbel
      clear hv hown hbel CG
      clear hc0 hc1
      go_wp2_with fail
      go_loopw [6, 27] (fun v i wr => ∃ k m : Nat, k ≤ 2 ∧ i = .int .i64 (k : Nat) ∧ wr.ownsRow w.heap.size 5 1 v m (vals .u8 (cat2 a b k)) ∧ v ≠ .slice none 0 0 ∧ Below w.heap.size w wr ∧ m ≤ 2000 ∧ (k = 1 → m = n0) ∧ (k = 2 → m = n0 + n1) ∧ (k = 0 → m = 0)) (fun _ i _ => 2 - (intOf i).toNat)
      case atStart => exact ⟨0, 0, by omega, rfl, HO.out, HV.out, HBE.out, by omega, by omega, by omega, by omega⟩
      case round =>
        clear HO HV HBE
        obtain ⟨k, m, hk, rfl, ho, hv, hb, hm, hk1, hk2, hk0⟩ := hrel
        have HO := Lib.hid ho
        have HV := Lib.hid hv
        have HBE := Lib.hid hb
        clear ho hv hb
        obtain rfl | rfl | rfl : k = 0 ∨ k = 1 ∨ k = 2 := by omega
        · obtain rfl := hk0 rfl
          have c0' := (HBE.out.cell (p := ⟨gs, 0, none⟩) hgs).trans HC0.out
          clear hk1 hk2 hk0
          go_wp2_with (at_builtin; refine append_bys rfl (.tmp 31) (.tmp 32) 22 rfl w.heap.size 5 Tryd.underlying22 info_u8 _ 0 [] rfl HO.out A0 n0 c0 a rfl hA0 H0.out w.heap.size (HB0.out.below HBE.out) (by omega) HBE.out.size HV.out ?_; intro v' w1 hown' hv' hbel')
          rw [List.nil_append, Nat.zero_add] at hown'
          go_roundw
          case rel => exact ⟨1, n0, by omega, rfl, hown', hv', HBE.out.trans hbel', by omega, fun _ => rfl, by omega, by omega⟩
          case measure => simp [intOf]
        · obtain rfl := hk1 rfl
          have c0' := (HBE.out.cell (p := ⟨gs, 1, none⟩) hgs).trans HC1.out
          clear hk1 hk2 hk0
          go_wp2_with (at_builtin; refine append_bys rfl (.tmp 31) (.tmp 32) 22 rfl w.heap.size 5 Tryd.underlying22 info_u8 _ m a rfl HO.out A1 n1 c1 b rfl hA1 H1.out w.heap.size (HB1.out.below HBE.out) (by omega) HBE.out.size HV.out ?_; intro v' w1 hown' hv' hbel')
          go_roundw
          case rel => exact ⟨2, m + n1, by omega, rfl, hown', hv', HBE.out.trans hbel', by omega, by omega, fun _ => rfl, by omega⟩
          case measure => simp [intOf]
        · obtain rfl := hk2 rfl
          have HF := Lib.hid (fresh_of_owns (l := a ++ b) HO.out (by omega) HBE.out)
          clear hk1 hk2 hk0 HO HBE
          go_wp2
          go_ret
          exact HF.out
end Go.Proofs.YtonoidhlbnbhcaaDoor
