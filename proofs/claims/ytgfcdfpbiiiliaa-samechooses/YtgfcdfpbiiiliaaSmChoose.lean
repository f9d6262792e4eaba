/-
  The contract of same.Choose: one of two, in new memory, or the error. No conditions but that the slices hold the bytes.
-/
import Derived.Test.YtgfcdfpbiiiliaaSmAwake
import Derived.Test.YtgfcdfpbiiiliaaOnly
import Derived.Test.YtgfcdfpbiiiliaaOwnBys
namespace Go.Proofs.Ytgfcdfpbiiiliaa
open Go.RowKit Sm Arr

theorem info_u8 : (Try.prog.info? 5).map (fun i => (i.zero, i.size, i.bytes)) = some (some (.int .u8 0), 1, 1) := by kernel_rfl
theorem make_bytes (s : Nat) (hs : s ≤ 4096) (W : World) : ∃ arr : Array Value, arr.size = s ∧
    (Instr.makeSlice 22 (.int .i64 (s : Int)) (.int .i64 (s : Int))).run Try.prog W = .ok (.slice (some ⟨W.heap.size, 0, none⟩) s s) (W.alloc (.cells arr 5)) := by
  obtain ⟨i0, hi, hz0, hz1, hz2⟩ := info_parts info_u8
  have hr := run_make (P := Try.prog) W 22 5 i0 (.int .u8 0) Try.underlying22 hi hz0 .i64 .i64 (s : Int) (s : Int) (by omega) (by omega) (by rw [hz2]; omega) (by omega)
  refine ⟨_, ?_, hr⟩
  rw [size_madeCells, hz1]; simp

/-- The block's first k cells are laid. -/
def LaidL (l : List Nat) (k : Nat) (arr : Array Value) : Prop := arr.size = l.length ∧ ∀ i, i < k → arr[i]? = some (.int .u8 ((l.getD i 0 : Nat) : Int))
theorem LaidL.step {l : List Nat} {k : Nat} {arr : Array Value} (h : LaidL l k arr) (hk : k < l.length) {v : Value} (hv : v = .int .u8 ((l.getD k 0 : Nat) : Int)) : LaidL l (k + 1) (arr.setIfInBounds k v) := by
  refine ⟨by simp [h.1], fun i hi => ?_⟩
  rw [Array.getElem?_setIfInBounds]
  by_cases e : k = i
  · subst e; rw [if_pos rfl, if_pos (by rw [h.1]; exact hk), hv]
  · rw [if_neg e]; exact h.2 i (by omega)
theorem LaidL.all {l : List Nat} {arr : Array Value} (h : LaidL l l.length arr) : arr = na .u8 l := by
  apply Array.ext_getElem?
  intro i
  by_cases hi : i < l.length
  · rw [h.2 i hi, na_get .u8 l i hi]
  · rw [Array.getElem?_eq_none (by rw [h.1]; omega), Array.getElem?_eq_none (by rw [size_na]; omega)]

/-- One of two. -/
def pickL (first : Bool) (bs cs : List Nat) : List Nat := if first then bs else cs
/-- What is taken of each byte. -/
def takn (first : Bool) : Nat := if first then 255 else 0
theorem and_all (z : Nat) (h : z < 256) : 255 &&& z = z := by
  rw [Nat.and_comm]
  have := Nat.and_two_pow_sub_one_eq_mod z 8
  rw [show (2 : Nat) ^ 8 - 1 = 255 from rfl] at this
  rw [this]; omega
theorem pick_byte (first : Bool) (x y : Nat) (hx : x < 256) (hy : y < 256) : y ^^^ (takn first &&& (x ^^^ y)) = if first then x else y := by
  cases first
  · simp [takn]
  · simp only [takn, if_true]
    rw [and_all _ (xor_lt hx hy), Nat.xor_comm x y, ← Nat.xor_assoc, Nat.xor_self, Nat.zero_xor]
theorem pick_get (first : Bool) (bs cs : List Nat) (i : Nat) : (pickL first bs cs).getD i 0 = if first then bs.getD i 0 else cs.getD i 0 := by
  cases first <;> rfl

/-- One of two, laid anew. -/
def Chosen (l : List Nat) (n : Nat) (w : World) (e : Ending) (w' : World) : Prop :=
  e = .returned (.tuple #[.slice (some ⟨w.heap.size, 0, none⟩) n n, .int .i64 0]) ∧ w' = w.alloc (.cells (na .u8 l) 5)

theorem choose_len (first : Bool) (A A' : Option Addr) (n n' c c' : Nat) (w : World) (hl : n ≠ n') : Calls Try.prog 12 #[.bool first, .slice A n c, .slice A' n' c'] w fun e w' => e = .returned (.tuple #[.slice none 0 0, .int .i64 2]) ∧ w = w' := by
  have h1 : ((n : Int) != (n' : Int)) = true := by simp; omega
  go_enter Try.func12, Try.ntmps12
  go_wp2
  go_ret2
  exact ⟨rfl, rfl⟩

set_option maxHeartbeats 1000000 in
theorem choose_any (first : Bool) (A A' : Option Addr) (bs cs : List Nat) (n c c' : Nat) (w : World) (hl : bs.length = n) (hl' : cs.length = n) (hn : n ≤ 4096)
    (hb : Bys w w.heap.size A bs) (hc : Bys w w.heap.size A' cs) :
    Calls Try.prog 12 #[.bool first, .slice A n c, .slice A' n c'] w (Chosen (pickL first bs cs) n w) := by
  obtain ⟨arr0, ha0, hmk⟩ := make_bytes n hn w
  have HP := Lib.hid (show (pickL first bs cs).length = n by cases first; exact hl'; exact hl)
  have HL := Lib.hid hl; clear hl
  have HL' := Lib.hid hl'; clear hl'
  have HB := Lib.hid hb; clear hb
  have HC := Lib.hid hc; clear hc
  have HA := Lib.hid ha0; clear ha0
  have h1 : ((n : Int) != (n : Int)) = false := by simp
  have HX : Go.RowKit.Hid (∀ k x y : Nat, x < 256 → y < 256 → x = bs.getD k 0 → y = cs.getD k 0 → bits .xor .u8 (y : Int) (bits .and .u8 ((takn first : Nat) : Int) (bits .xor .u8 (x : Int) (y : Int))) = (((pickL first bs cs).getD k 0 : Nat) : Int)) := Lib.hid (by
    intro k x y hx hy ex ey
    have ht : takn first < 256 := by cases first <;> decide
    rw [u8_xor_nat x y hx hy, u8_and_nat _ _ ht (xor_lt hx hy), u8_xor_nat y _ hy (and_lt ht), pick_byte first x y hx hy, pick_get, ex, ey])
  cases first
  all_goals
    simp only [takn, if_true, if_false, Bool.false_eq_true] at HX
    generalize pickL _ bs cs = l at *
    go_enter Try.func12, Try.ntmps12
    go_wp2
    clear hmk
    go_loopw [10, 11, 23] (fun _ _ i wr => ∃ (k : Nat) (arr : Array Value), k ≤ n ∧ i = .int .i64 k ∧ LaidL l k arr ∧ wr = w.alloc (.cells arr 5)) (fun _ _ i _ => n - (intOf i).toNat)
    case atStart => exact ⟨0, arr0, Nat.zero_le _, rfl, ⟨HA.out.trans HP.out.symm, fun i hi => by omega⟩, rfl⟩
    case round =>
      obtain ⟨k, arr, hk, rfl, hla, rfl⟩ := hrel
      have HLA := Lib.hid hla; clear hla
      by_cases hlt : k < n
      · obtain ⟨b, off, rfl, hlb, h3⟩ := HB.out.2 (by have := HL.out; omega)
        obtain ⟨b', off', rfl, hlb', h4⟩ := HC.out.2 (by have := HL'.out; omega)
        have hc1 := h3 k (by have := HL.out; omega)
        have hc2 := h4 k (by have := HL'.out; omega)
        have hin : k < arr.size := by rw [HLA.out.1, HP.out]; exact hlt
        have hold : arr[k]? = some arr[k] := by simp [hin]
        have HE := Lib.hid (HX.out k _ _ (HB.out.lt k) (HC.out.lt k) rfl rfl)
        clear h3 h4
        generalize bs.getD k 0 = x at *
        generalize cs.getD k 0 = y at *
        go_wp2
        go_roundw
        case rel => exact ⟨k + 1, _, by omega, by go_num, HLA.out.step (by rw [HP.out]; exact hlt) (by rw [← HE.out]; rfl), rfl⟩
        case measure => simp [intOf]; omega
      · obtain rfl : k = n := by omega
        have HQ := Lib.hid (show arr = na .u8 l from LaidL.all (by rw [HP.out]; exact HLA.out))
        go_wp2
        go_ret2
        exact ⟨rfl, by rw [HQ.out]⟩
end Go.Proofs.Ytgfcdfpbiiiliaa
