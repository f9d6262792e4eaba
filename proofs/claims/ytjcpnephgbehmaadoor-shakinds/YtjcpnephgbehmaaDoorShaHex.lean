/-
  Contracts of sha.Kinds and sha.Hex. Conditions: the table of kinds stands in its variable.
-/
import Derived.Test.YtjcpnephgbehmaaDoorShaSum
import Derived.Test.YtjcpnephgbehmaaDoorQuietTail2
import Derived.Test.YtjcpnephgbehmaaDoorOwnMany
import Derived.Test.YtjcpnephgbehmaaDoorOwnArr
import Derived.Laws.BytesArg
namespace Go.Proofs.YtjcpnephgbehmaaDoor
open Go.RowKit Arr Sh

theorem kinds_gen (kl : List Nat) (lk : kl.length = 64) (w : World) (hk : Tab32 w 1 kl) : Calls Tryd.prog 12 #[] w (GivesW kl w) := by
  have b1 := below_alloc w (.cells (na .u32 (zs 64)) 34)
  have r1 := Holds.new w 34 .u32 (zs 64)
  have FR := Lib.hid (hk.below b1 (hk.lt (by omega))).range
  have F1 := Lib.hid (r1.put kl (by rw [lk, length_zs]))
  have F2 := Lib.hid (below_setCells (b := w.heap.size) (Nat.le_refl _) (nv .u32 kl) 0 _ b1)
  have R1 := Lib.hid r1
  clear b1 r1 hk
  go_enter Tryd.func12, Tryd.ntmps12
  go_wp2_with (first | (with_reducible refine Arr.alloc (t := 34) _ z64 ?_) | (with_reducible refine Arr.loadR o64 1 kl lk FR.out rfl ?_) | (with_reducible refine Arr.store o64 w.heap.size (zs 64) kl (length_zs _) R1.out lk rfl rfl ?_) | fail)
  exact bodyPost_ret (v := .agg (na .u32 kl)) (results_arr o64 rfl _ _ w.heap.size kl lk F1.out rfl) rfl ⟨rfl, F2.out⟩

/-- A digit. -/
def hd (x : Nat) : Nat := if x < 10 then 48 + x else 87 + x
theorem hd_lt (x : Nat) (h : x < 16) : hd x < 256 := by unfold hd; split <;> omega
def hexL (bs : List Nat) : List Nat := bs.flatMap fun b => [hd (b / 16), hd (b % 16)]
theorem hexL_snoc (bs : List Nat) (i : Nat) (h : i < bs.length) : hexL (bs.take (i + 1)) = hexL (bs.take i) ++ [hd (bs.getD i 0 / 16), hd (bs.getD i 0 % 16)] := by
  rw [take_snoc bs i h, hexL, List.flatMap_append]; rfl
theorem length_hexL (bs : List Nat) : (hexL bs).length = 2 * bs.length := by
  induction bs with
  | nil => rfl
  | cons b bs ih => rw [hexL, List.flatMap_cons, List.length_append]; show 2 + (hexL bs).length = _; rw [ih]; simp; omega
theorem hexL_lt (bs : List Nat) (hb : ∀ x, x ∈ bs → x < 256) : ∀ x, x ∈ hexL bs → x < 256 := by
  intro x hx
  simp only [hexL, List.mem_flatMap, List.mem_cons, List.not_mem_nil, or_false] at hx
  obtain ⟨b, hb', rfl | rfl⟩ := hx
  · exact hd_lt _ (by have := hb b hb'; omega)
  · exact hd_lt _ (by omega)
theorem hexL_get (bs : List Nat) : ∀ (i : Nat), i < bs.length → (hexL bs).getD (2 * i) 0 = hd (bs.getD i 0 / 16) ∧ (hexL bs).getD (2 * i + 1) 0 = hd (bs.getD i 0 % 16) := by
  induction bs with
  | nil => intro i hi; simp at hi
  | cons b bs ih =>
    intro i hi
    have e : hexL (b :: bs) = hd (b / 16) :: hd (b % 16) :: hexL bs := rfl
    rw [e]
    cases i with
    | zero => exact ⟨rfl, rfl⟩
    | succ i =>
      have := ih i (by simpa using hi)
      rw [show 2 * (i + 1) = 2 * i + 1 + 1 by omega]
      exact this
theorem dig_tab : ∀ h : Fin 16, ((({ data := #[48, 49, 50, 51, 52, 53, 54, 55, 56, 57, 97, 98, 99, 100, 101, 102] } : ByteArray)[((h.val : Nat) : Int).toNat]'(by have := h.isLt; show _ < 16; omega)).toNat = hd h.val) := by decide
/-- A digit is taken out of the digits. -/
theorem dig_run (h : Nat) (hh : h < 16) (k : IntKind) (W : World) : (Instr.index 9 (.string { data := #[48, 49, 50, 51, 52, 53, 54, 55, 56, 57, 97, 98, 99, 100, 101, 102] }) (.int k (h : Int))).run Tryd.prog W = .ok (.int .u8 ((hd h : Nat) : Int)) W := by
  rw [run_index_string W 9 _ k (h : Int) Tryd.underlying9, dif_pos ⟨by omega, by show (h : Int) < 16; omega⟩]
  congr 3
  exact dig_tab ⟨h, hh⟩

set_option maxHeartbeats 1000000 in
set_option maxRecDepth 10000 in
theorem hex_any (bs : List Nat) (hl : bs.length = 32) (hb : ∀ x, x ∈ bs → x < 256) (w : World) :
    Calls Tryd.prog 17 #[.agg (na .u8 bs)] w fun e w' => e = .returned (.string (strOfNums ((hexL bs).map fun (z : Nat) => (z : Int)))) ∧ Below w.heap.size w w' := by
  have b1 := below_alloc w (.cells (na .u8 bs) 24)
  have r1 := Holds.new w 24 .u8 bs
  have hmk : ∀ W : World, ∃ arr : Array Value, arr.size = 64 ∧ (Instr.makeSlice 22 (.int .i64 0) (.int .i64 64)).run Tryd.prog W = .ok (.slice (some ⟨W.heap.size, 0, none⟩) 0 64) (W.alloc (.cells arr 5)) := fun W => by
    obtain ⟨i0, hi, hz0, hz1, hz2⟩ := info_parts info_u8
    have hr := run_make (P := Tryd.prog) W 22 5 i0 (.int .u8 0) Tryd.underlying22 hi hz0 .i64 .i64 0 64 (by omega) (by omega) (by rw [hz2]; omega) (by omega)
    exact ⟨_, by rw [size_madeCells, hz1]; rfl, hr⟩
  have s1 : (w.alloc (.cells (na .u8 bs) 24)).heap.size = w.heap.size + 1 := World.size_alloc ..
  obtain ⟨arr, harr, hmk1⟩ := hmk (w.alloc (.cells (na .u8 bs) 24))
  have HARR := Lib.hid harr
  have R1 := Lib.hid r1
  have B1 := Lib.hid b1
  have HL := Lib.hid hl
  have HB := Lib.hid hb
  have S1 := Lib.hid s1
  have HX := Lib.hid (hexL_lt bs hb)
  have LX := Lib.hid (length_hexL bs)
  clear r1 b1 hmk hb s1 harr
  go_enter Tryd.func17, Tryd.ntmps17
  go_upto_region 1 with fail
  generalize w.alloc (.cells (na .u8 bs) 24) = w1 at *
  have O1 : Go.RowKit.Hid ((w1.alloc (.cells arr 5)).ownsRow w1.heap.size 5 1 (.slice (some ⟨w1.heap.size, 0, none⟩) 0 64) 0 (vals .u8 (hexL (bs.take 0)))) := Lib.hid (World.ownsRow_made w1 arr 64 (Nat.le_refl _) (by unfold maxLen; omega) (by rw [HARR.out]))
  have R2 := Lib.hid (R1.out.alloc (.cells arr 5))
  have B2 := Lib.hid (below_alloc w1 (.cells arr 5))
  go_wp2_with (first | (with_reducible refine Arr.load o32 w.heap.size bs hl R2.out rfl ?_) | fail)
  clear hmk1 R2 R1
  generalize w1.alloc (.cells arr 5) = w2 at *
  go_loopw [3, 8] (fun v i wr => ∃ i0 : Nat, i0 ≤ 32 ∧ i = .int .i64 (i0 : Nat) ∧ wr.ownsRow w1.heap.size 5 1 v (2 * i0) (vals .u8 (hexL (bs.take i0))) ∧ Below w1.heap.size w1 wr) (fun _ i _ => 32 - (intOf i).toNat)
  case atStart => exact ⟨0, by omega, rfl, O1.out, B2.out⟩
  case round =>
    clear O1 B2
    obtain ⟨i, hi, rfl, hown, hbel⟩ := hrel
    have HO := Lib.hid hown
    have HBl := Lib.hid hbel
    have hsz := hbel.size
    clear hown hbel
    by_cases hlt : i < 32
    · have t1 : decide ((i : Int) < 32) = true := by simp; omega
      have ti : (i : Int) < 32 := by omega
      have hix : ∀ W : World, (Instr.index 24 (.agg (na .u8 bs)) (.int .i64 (i : Int))).run Tryd.prog W = .ok (.int .u8 ((bs.getD i 0 : Nat) : Int)) W := fun W => Arr.index o32 W bs hl .i64 i hlt
      have hbi : bs.getD i 0 < 256 := by
        have : bs.getD i 0 ∈ bs := by
          have hi' : i < bs.length := by omega
          simp only [List.getD_eq_getElem?_getD, List.getElem?_eq_getElem hi', Option.getD_some]
          exact List.getElem_mem hi'
        exact HB.out _ this
      have HS := Lib.hid (hexL_snoc bs i (by omega))
      generalize bs.getD i 0 = b at *
      obtain ⟨h1, eh1⟩ : ∃ h, h = b / 16 := ⟨_, rfl⟩
      obtain ⟨h2, eh2⟩ : ∃ h, h = b % 16 := ⟨_, rfl⟩
      rw [← eh1, ← eh2] at HS
      have f1 : (b : Int) / 16 = (h1 : Int) := by omega
      have f1' : (b : Int) / 2 ^ 4 = (h1 : Int) := by omega
      have f2 : bits .and .u8 (b : Int) 15 = (h2 : Int) := by
        have h15 := u8_and_nat b 15 hbi (by omega)
        rw [show (15 : Nat) = 2 ^ 4 - 1 by decide, Nat.and_two_pow_sub_one_eq_mod] at h15
        rw [eh2]; exact h15
      have d1 := dig_run h1 (by omega) .u8
      have d2 := dig_run h2 (by omega) .u8
      have l1 := hd_lt h1 (by omega)
      have l2 := hd_lt h2 (by omega)
      have hh1 : (h1 : Int) < 16 := by omega
      have hh2 : (h2 : Int) < 16 := by omega
      clear eh1 eh2
      generalize hd h1 = x1 at *
      generalize hd h2 = x2 at *
      go_wp2_with fail
      refine region_move_quiet_tail 7 (by kernel_rfl) (by kernel_rfl) (.tmp 3) u3 rfl rfl rfl (fun _ _ _ _ h => h) ?_
      simp only [List.take_succ_cons, List.take_zero, List.drop_succ_cons, List.drop_zero, Nat.add_one_sub_one, Act.put, List.setIfInBounds_toArray, List.set_cons_zero, List.set_cons_succ]
      repeat (go_big_quiet_step (fail))
      refine wpQuiet_nil ?_
      intro wd hwd
      have G1 : wd.ownsRow w1.heap.size 5 1 u3 (2 * i) (vals .u8 (hexL (bs.take i))) := by obtain ⟨n, rfl⟩ := hwd; exact HO.out
      have G2 : Below w1.heap.size w1 wd := by obtain ⟨n, rfl⟩ := hwd; exact below_drewN HBl.out n
      have GO := Lib.hid (G1.alloc (.cells #[.int .u8 (x1 : Int), .int .u8 (x2 : Int)] 5))
      have hN := Holds.new wd 5 .u8 [x1, x2]
      have GN : Go.RowKit.Hid (Nums (wd.alloc (.cells #[.int .u8 (x1 : Int), .int .u8 (x2 : Int)] 5)) (wd.heap.size + 1) .u8 (some ⟨wd.heap.size, 0, none⟩) [x1, x2]) := Lib.hid (fun _ => ⟨wd.heap.size, 0, rfl, by omega, fun j hj => by rw [Nat.zero_add]; exact hN.cell j hj⟩)
      have GB := Lib.hid (G2.alloc G2.size (.cells #[.int .u8 (x1 : Int), .int .u8 (x2 : Int)] 5))
      have gsz : w1.heap.size ≤ (wd.alloc (.cells #[.int .u8 (x1 : Int), .int .u8 (x2 : Int)] 5)).heap.size := by rw [World.size_alloc]; have := G2.size; omega
      have GSZ := Lib.hid gsz
      clear hwd G1 G2 hN gsz HO HBl f1 f1' f2 d1 d2 hix
      go_wp2_with (at_builtin; refine append_many rfl (.tmp 11) (.tmp 18) 22 rfl w1.heap.size 5 .u8 1 Tryd.underlying22 info_u8 (by omega) _ (2 * i) (hexL (bs.take i)) rfl GO.out (some ⟨wd.heap.size, 0, none⟩) 2 2 [x1, x2] rfl (fun h => by cases h) rfl (wd.heap.size + 1) GN.out (by omega) GSZ.out ?_; intro v' w6 hown6 hbel6)
      rw [← HS.out] at hown6
      go_roundw
      case rel => exact ⟨i + 1, by omega, by go_num, hown6, GB.out.trans hbel6⟩
      case measure => simp [intOf]; omega
    · obtain rfl : i = 32 := by omega
      have t1 : decide ((32 : Int) < 32) = false := by decide
      have eT : bs.take 32 = bs := List.take_of_length_le (by omega)
      rw [eT] at HO
      obtain ⟨g, c, rfl, hg, _, hll, hH⟩ := holds_of_owns HO.out (by omega)
      have hcv := fun dst hd => run_convert_bytes_arg (P := Tryd.prog) wr 22 5 Tryd.underlying22 Tryd.underlying5 g 0 64 c ((hexL bs).map fun (z : Nat) => (z : Int)) (by rw [List.length_map, hll]) (fun j hj => by
        rw [Nat.zero_add, hH.cell j (by omega)]
        simp [show j < (hexL bs).length by omega]) dst hd
      have hcv2 := hcv 9 Tryd.underlying9
      have BB := Lib.hid (B1.out.trans (HBl.out.mono (by have := S1.out; omega)))
      clear hcv hH eT HO hll
      obtain ⟨st, est⟩ : ∃ st, st = strOfNums ((hexL bs).map fun (z : Nat) => (z : Int)) := ⟨_, rfl⟩
      rw [← est] at hcv2
      have EST := Lib.hid est
      clear est
      go_wp2
      go_ret
      exact ⟨by rw [← EST.out]; rfl, BB.out⟩
end Go.Proofs.YtjcpnephgbehmaaDoor
