/-
  Contracts of word.Put32, word.Get32 and word.Rotate (and of spread and gather, which they call), for seats of later layers. Conditions: the table of widths stands in its variable.
-/
import Derived.Test.YtoeboblkboillaaDoorChecked
import Derived.Test.YtoeboblkboillaaDoorBytes
import Derived.Test.YtoeboblkboillaaDoorNum
import Derived.Test.YtoeboblkboillaaDoorRot
import Derived.Lib.Hide
import Derived.Outline
import Derived.Laws.BitsAllLaws
namespace Go.Proofs.YtoeboblkboillaaDoor
open Go.RowKit

theorem shr_bytes (n s : Nat) : ((n : Int) / 2 ^ (8 * s)) = ((n / 256 ^ s : Nat) : Int) := by
  rw [← two_pow8]; simp

theorem ret_bool {a b : Bool} (h : a = b) : Ending.returned (.bool a) = .returned (.bool b) := by rw [h]
theorem ret_int {k : IntKind} {a b : Int} (h : a = b) : Ending.returned (.int k a) = .returned (.int k b) := by rw [h]

theorem wraps_u64 (n : Int) (h0 : 0 ≤ n) (h1 : n < 2 ^ 64) : IntKind.u64.wrap n = n := by
  have : (2 : Int) ^ 64 = 18446744073709551616 := by decide
  rw [this] at h1
  rw [IntKind.wrap_u64]; omega

theorem or_step (X c m q : Nat) (hX : X = q * 256 ^ (m + 1)) (hc : c < 256) (hlt : X + c * 256 ^ m < 18446744073709551616) :
    bits .or .u64 (X : Int) (IntKind.u64.wrap (IntKind.u64.wrap (c : Int) * 2 ^ (8 * m))) = ((X + c * 256 ^ m : Nat) : Int) := by
  have p64 : (2 : Int) ^ 64 = 18446744073709551616 := by decide
  have e0 : (c : Int) * 2 ^ (8 * m) = ((c * 256 ^ m : Nat) : Int) := by rw [← two_pow8]; simp
  have hc1 : IntKind.u64.wrap (c : Int) = c := by rw [IntKind.wrap_u64]; omega
  have hc2 : IntKind.u64.wrap ((c * 256 ^ m : Nat) : Int) = ((c * 256 ^ m : Nat) : Int) := by rw [IntKind.wrap_u64]; omega
  rw [hc1, e0, hc2]
  have hm : c * 256 ^ m < 256 ^ (m + 1) := by
    rw [Nat.pow_succ, Nat.mul_comm]
    exact Nat.mul_lt_mul_of_pos_left hc (Nat.pow_pos (by omega))
  have hi : ((2 : Int) ^ (8 * (m + 1))) = ((256 ^ (m + 1) : Nat) : Int) := by rw [← two_pow8]; simp
  rw [bits_join .u64 64 (by decide) wraps_u64 (8 * (m + 1)) (X : Int) ((c * 256 ^ m : Nat) : Int) (by omega) ?_ (by rw [p64]; omega) (by omega) (by rw [hi]; omega) (by rw [p64]; omega)]
  · rw [Int.natCast_add]
  · rw [hi, hX]
    have : ((q * 256 ^ (m + 1) : Nat) : Int) % ((256 ^ (m + 1) : Nat) : Int) = ((q * 256 ^ (m + 1) % 256 ^ (m + 1) : Nat) : Int) := by rw [Int.natCast_emod]
    rw [this, Nat.mul_mod_left]; rfl

set_option maxHeartbeats 400000 in
theorem gather_any (bs : List Nat) (A : Option Addr) (c n : Nat) (w : World) (hl : bs.length = n) (hn : n ≤ 8) (B : Nat) (hb : Bys w B A bs) (ht : Tab w 0) :
    Calls Tryd.prog 36 #[.slice A n c] w fun e w' => e = .returned (.int .u64 (num bs : Nat)) ∧ w = w' := by
  have HL := Lib.hid hl; clear hl
  have HB := Lib.hid hb; clear hb
  have HT := Lib.hid ht; clear ht
  go_enter Tryd.func36, Tryd.ntmps36
  go_wp2
  go_loop [3, 8] (fun x i => ∃ k : Nat, k ≤ n ∧ i = .int .i64 k ∧ x = .int .u64 (gath bs n k : Nat)) (fun _ i => n - (intOf i).toNat)
  case atStart => exact ⟨0, Nat.zero_le _, rfl, by rw [gath_zero]; rfl⟩
  case round =>
    obtain ⟨k, hk, rfl, rfl⟩ := hrel
    by_cases hlt : k < n
    · obtain ⟨b, off, rfl, _, h3⟩ := HB.out.2 (by have := HL.out; omega)
      have hc1 := h3 k (by have := HL.out; omega)
      have hcv := HB.out.lt k
      clear h3
      have hc2 := HT.out (n - 1 - k) (by omega)
      have hs := gath_succ bs k (by have := HL.out; omega)
      have hg := gath_lt bs HB.out.1 (k + 1) (by have := HL.out; omega)
      have hq : gath bs n k = num (bs.take k) * 256 ^ ((n - 1 - k) + 1) := by unfold gath; congr 2; omega
      rw [HL.out] at hs hg
      have hp := pow_le8 hn
      have step := or_step (gath bs n k) (bs.getD k 0) (n - 1 - k) _ hq hcv (by rw [← hs]; omega)
      rw [← hs] at step
      have ST := Lib.hid step
      clear step hs hg hq hp hcv
      generalize bs.getD k 0 = cv at *
      generalize gath bs n k = X at *
      go_wp2
      go_round
      case rel => exact ⟨k + 1, by omega, by go_num, by rw [ST.out]⟩
      case measure => simp [intOf]; omega
    · obtain rfl : k = n := by omega
      have hfin : gath bs k k = num bs := by have := gath_all bs; rw [HL.out] at this; exact this
      have HF := Lib.hid hfin; clear hfin
      go_wp2
      go_ret
      exact ⟨ret_int (by rw [HF.out]), rfl⟩

/-- The block that spread fills: its first k bytes are laid. -/
def Laid (x s k : Nat) (arr : Array Value) : Prop := arr.size = s ∧ ∀ i, i < k → arr[i]? = some (.int .u8 (((bytesOf x s).getD i 0 : Nat) : Int))

theorem Laid.step {x s k : Nat} {arr : Array Value} (h : Laid x s k arr) (hk : k < s) {v : Value} (hv : v = .int .u8 (((bytesOf x s).getD k 0 : Nat) : Int)) : Laid x s (k + 1) (arr.setIfInBounds k v) := by
  refine ⟨by simp [h.1], fun i hi => ?_⟩
  rw [Array.getElem?_setIfInBounds]
  by_cases e : k = i
  · subst e; rw [if_pos rfl, if_pos (by rw [h.1]; exact hk), hv]
  · rw [if_neg e]; exact h.2 i (by omega)

theorem info_u8 : (Tryd.prog.info? 5).map (fun i => (i.zero, i.size, i.bytes)) = some (some (.int .u8 0), 1, 1) := by kernel_rfl

theorem make_bytes (s : Nat) (hs : s ≤ 4096) (W : World) : ∃ arr : Array Value, arr.size = s ∧
    (Instr.makeSlice 22 (.int .i64 (s : Int)) (.int .i64 (s : Int))).run Tryd.prog W = .ok (.slice (some ⟨W.heap.size, 0, none⟩) s s) (W.alloc (.cells arr 5)) := by
  obtain ⟨i0, hi, hz0, hz1, hz2⟩ := info_parts info_u8
  have hr := run_make (P := Tryd.prog) W 22 5 i0 (.int .u8 0) Tryd.underlying22 hi hz0 .i64 .i64 (s : Int) (s : Int) (by omega) (by omega) (by rw [hz2]; omega) (by omega)
  refine ⟨_, ?_, hr⟩
  rw [size_madeCells, hz1]; simp

theorem shr_byte (x s k : Nat) (hk : k < s) : ((x : Int) / 2 ^ (8 * (s - 1 - k))) % 256 = (((bytesOf x s).getD k 0 : Nat) : Int) := by
  rw [getD_bytesOf x s k hk, shr_bytes]
  simp

/-- What spread leaves: one new block, the bytes. -/
def Spread (x s : Nat) (w : World) (e : Ending) (w' : World) : Prop :=
  ∃ arr, Laid x s s arr ∧ e = .returned (.slice (some ⟨w.heap.size, 0, none⟩) s s) ∧ w' = w.alloc (.cells arr 5)

set_option maxHeartbeats 400000 in
theorem spread_any (x : Nat) (s : Nat) (hs1 : 1 ≤ s) (hs : s ≤ 8) (w : World) (ht : Tab w 0) :
    Calls Tryd.prog 34 #[.int .u64 (x : Int), .int .i64 (s : Int)] w (Spread x s w) := by
  have hw0 : 0 < w.heap.size := ht.lt
  obtain ⟨arr0, ha0, hmk⟩ := make_bytes s (by omega) w
  have HT := Lib.hid ht; clear ht
  have HA := Lib.hid ha0; clear ha0
  go_enter Tryd.func34, Tryd.ntmps34
  go_wp2
  clear hmk
  go_loopw [11] (fun i wr => ∃ (k : Nat) (arr : Array Value), k ≤ s ∧ i = .int .i64 k ∧ Laid x s k arr ∧ wr = w.alloc (.cells arr 5)) (fun i _ => s - (intOf i).toNat)
  case atStart => exact ⟨0, arr0, Nat.zero_le _, rfl, ⟨HA.out, fun i hi => by omega⟩, rfl⟩
  case round =>
    obtain ⟨k, arr, hk, rfl, hla, rfl⟩ := hrel
    have HLA := Lib.hid hla; clear hla
    by_cases hlt : k < s
    · have hc2 := HT.out (s - 1 - k) (by omega)
      have hin : k < arr.size := by rw [HLA.out.1]; exact hlt
      have hold : arr[k]? = some arr[k] := by simp [hin]
      have HB := Lib.hid (shr_byte x s k hlt)
      go_wp2
      go_roundw
      case rel => exact ⟨k + 1, _, by omega, by go_num, HLA.out.step hlt (by rw [HB.out]), rfl⟩
      case measure => simp [intOf]; omega
    · obtain rfl : k = s := by omega
      go_wp2
      go_ret
      exact ⟨arr, HLA.out, rfl, rfl⟩
/-- What Get64 and Get32 leave. -/
def WideGot (k : IntKind) (n : Nat) (b : Bool) (w : World) (e : Ending) (w' : World) : Prop := e = .returned (.tuple #[.int k (n : Int), .bool b]) ∧ w = w'


end Go.Proofs.YtoeboblkboillaaDoor
