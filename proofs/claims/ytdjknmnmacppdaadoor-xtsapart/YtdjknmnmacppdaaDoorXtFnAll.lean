/-
  Sectors as numbers: tweaks, blocks between their tweaks, sectors. No program is named here; no conditions.
  Contracts of the small functions of the layer xts. Conditions: the numbers and slices are in their ranges.
-/
import Derived.Test.YtdjknmnmacppdaaDoorNumAll
import Derived.Test.YtdjknmnmacppdaaDoorDblAll
import Derived.Test.YtdjknmnmacppdaaDoorTogAll
namespace Go.Proofs.YtdjknmnmacppdaaDoor.Xt
open Ae

/-- A number's sixteen bytes, the lowest first. -/
def lowL (n : Nat) : List Nat := (List.range 16).map fun i => n / 256 ^ i % 256
theorem st_low (n : Nat) : St (lowL n) := st_map _ fun _ _ => Nat.mod_lt _ (by omega)
theorem st_bytes {l : List Nat} (h : St l) : l.length = 16 ∧ Bytes l := h
theorem st_dbl {l : List Nat} (h : St l) : St (dbl l) := ⟨length_dbl l h.1, dbl_bytes l h.1 h.2⟩
theorem st_dblN {l : List Nat} (h : St l) (n : Nat) : St (dblN l n) := dblN_ok l h.1 h.2 n
theorem dblN_succ (l : List Nat) (n : Nat) : dblN l (n + 1) = dbl (dblN l n) := rfl
/-- A block between its tweak and its tweak. -/
def bkt (f : List Nat → List Nat) (t b : List Nat) : List Nat := xorL (f (xorL b t)) t
/-- The block that begins at 16 k. -/
def pc (b : List Nat) (k : Nat) : List Nat := (b.drop (16 * k)).take 16
/-- The first k blocks, turned. -/
def outN (f : List Nat → List Nat) (t b : List Nat) : Nat → List Nat
  | 0 => []
  | k + 1 => outN f t b k ++ bkt f (dblN t k) (pc b k)
/-- A sector. -/
def secL (f : List Nat → List Nat) (t b : List Nat) : List Nat := outN f t b (b.length / 16)
/-- A cipher's step, forth or back: states become states. -/
def Step (f : List Nat → List Nat) : Prop := ∀ b, St b → St (f b)

theorem pc_len {b : List Nat} {k m : Nat} (h : b.length = 16 * m) (hk : k < m) : (pc b k).length = 16 := by simp [pc]; omega
theorem pc_get (b : List Nat) (k i : Nat) (hi : i < 16) : (pc b k).getD i 0 = b.getD (16 * k + i) 0 := by
  simp [pc, List.getD_eq_getElem?_getD, hi, List.getElem?_drop]
theorem st_pc {b : List Nat} {k m : Nat} (h : b.length = 16 * m) (hk : k < m) (hb : ∀ x, x ∈ b → x < 256) : St (pc b k) := by
  refine ⟨pc_len h hk, fun i => ?_⟩
  by_cases hi : i < 16
  · rw [pc_get b k i hi]
    have hlt : 16 * k + i < b.length := by omega
    rw [List.getD_eq_getElem?_getD, List.getElem?_eq_getElem hlt]
    exact hb _ (List.getElem_mem _)
  · rw [getD_out _ _ (by rw [pc_len h hk]; omega)]; omega
theorem st_bkt {f : List Nat → List Nat} {t b : List Nat} (hf : Step f) (ht : St t) (hb : St b) : St (bkt f t b) := st_xor (hf _ (st_xor hb ht)) ht
theorem len_outN {f : List Nat → List Nat} (t b : List Nat) : ∀ k, (outN f t b k).length = 16 * k
  | 0 => rfl
  | k + 1 => by rw [outN, List.length_append, len_outN t b k, bkt]; simp [xorL]; omega
theorem outN_get {f : List Nat → List Nat} (t b : List Nat) : ∀ (m k i : Nat), k < m → i < 16 → (outN f t b m).getD (16 * k + i) 0 = (bkt f (dblN t k) (pc b k)).getD i 0
  | 0, k, i, h, _ => absurd h (by omega)
  | m + 1, k, i, h, hi => by
    have hl := len_outN (f := f) t b m
    rw [outN, List.getD_eq_getElem?_getD]
    by_cases e : k < m
    · rw [List.getElem?_append_left (by omega), ← List.getD_eq_getElem?_getD]
      exact outN_get t b m k i e hi
    · obtain rfl : k = m := by omega
      rw [List.getElem?_append_right (by omega), hl, show 16 * k + i - 16 * k = i by omega, ← List.getD_eq_getElem?_getD]
theorem len_sec {f : List Nat → List Nat} {t b : List Nat} {m : Nat} (h : b.length = 16 * m) : (secL f t b).length = b.length := by
  rw [secL, len_outN, h]; omega
theorem pc_out {f : List Nat → List Nat} (t b : List Nat) (m k : Nat) (hk : k < m) : pc (outN f t b m) k = bkt f (dblN t k) (pc b k) := by
  have hl := len_outN (f := f) t b m
  refine list_ext (pc_len hl hk) (show (xorL _ _).length = 16 by simp [xorL]) fun i hi => ?_
  rw [pc_get _ _ _ hi, outN_get t b m k i hk hi]
theorem out_lt {f : List Nat → List Nat} {t b : List Nat} {m : Nat} (hf : Step f) (ht : St t) (h : b.length = 16 * m) (hb : ∀ x, x ∈ b → x < 256) : ∀ k, k ≤ m → ∀ x, x ∈ outN f t b k → x < 256
  | 0, _, x, hx => by cases hx
  | k + 1, hk, x, hx => by
    rw [outN, List.mem_append] at hx
    rcases hx with hx | hx
    · exact out_lt hf ht h hb k (by omega) x hx
    · have hs := st_bkt hf (st_dblN ht k) (st_pc (k := k) h (by omega) hb)
      obtain ⟨i, hi, e⟩ := List.getElem_of_mem hx
      have := hs.2 i
      rw [List.getD_eq_getElem?_getD, List.getElem?_eq_getElem hi, Option.getD_some, e] at this
      exact this
theorem sec_lt {f : List Nat → List Nat} {t b : List Nat} {m : Nat} (hf : Step f) (ht : St t) (h : b.length = 16 * m) (hb : ∀ x, x ∈ b → x < 256) : ∀ x, x ∈ secL f t b → x < 256 := by
  have := out_lt hf ht h hb m (Nat.le_refl _)
  rw [secL, h, show 16 * m / 16 = m by omega]; exact this
/-- Two lists of as many blocks are one, if block by block they are. -/
theorem eq_of_pc {a b : List Nat} {m : Nat} (ha : a.length = 16 * m) (hb : b.length = 16 * m) (h : ∀ k, k < m → pc a k = pc b k) : a = b := by
  refine list_ext ha hb fun i hi => ?_
  have e := h (i / 16) (by omega)
  have h1 := pc_get a (i / 16) (i % 16) (Nat.mod_lt _ (by omega))
  have h2 := pc_get b (i / 16) (i % 16) (Nat.mod_lt _ (by omega))
  rw [e, h2, show 16 * (i / 16) + i % 16 = i by omega] at h1
  exact h1.symm
/-- There and back. -/
theorem bkt_bkt {f g : List Nat → List Nat} {t b : List Nat} (hf : Step f) (hg : ∀ x, St x → g (f x) = x) (ht : St t) (hb : St b) : bkt g t (bkt f t b) = b := by
  rw [bkt, bkt, xor_xor (hf _ (st_xor hb ht)) ht, hg _ (st_xor hb ht), xor_xor hb ht]
theorem sec_sec {f g : List Nat → List Nat} {t b : List Nat} {m : Nat} (hf : Step f) (hg : ∀ x, St x → g (f x) = x) (ht : St t) (h : b.length = 16 * m) (hb : ∀ x, x ∈ b → x < 256) : secL g t (secL f t b) = b := by
  have e1 : (secL f t b) = outN f t b m := by rw [secL, h, show 16 * m / 16 = m by omega]
  have l1 := len_outN (f := f) t b m
  have e2 : secL g t (outN f t b m) = outN g t (outN f t b m) m := by rw [secL, l1, show 16 * m / 16 = m by omega]
  rw [e1, e2]
  refine eq_of_pc (len_outN _ _ _) h fun k hk => ?_
  rw [pc_out _ _ m k hk, pc_out _ _ m k hk, bkt_bkt hf hg (st_dblN ht k) (st_pc h hk hb)]
/-- Blocks that are not one are not turned alike. -/
theorem bkt_inj {f g : List Nat → List Nat} {t a b : List Nat} (hf : Step f) (hg : ∀ x, St x → g (f x) = x) (ht : St t) (ha : St a) (hb : St b) (h : bkt f t a = bkt f t b) : a = b := by
  rw [← bkt_bkt hf hg ht ha, h, bkt_bkt hf hg ht hb]
theorem sec_inj {f g : List Nat → List Nat} {t a b : List Nat} {m : Nat} (hf : Step f) (hg : ∀ x, St x → g (f x) = x) (ht : St t) (h : a.length = 16 * m) (h' : b.length = 16 * m) (ha : ∀ x, x ∈ a → x < 256) (hb : ∀ x, x ∈ b → x < 256) : secL f t a = secL f t b ↔ a = b :=
  ⟨fun e => by rw [← sec_sec hf hg ht h ha, e, sec_sec hf hg ht h' hb], fun e => by rw [e]⟩
end Go.Proofs.YtdjknmnmacppdaaDoor.Xt
namespace Go.Proofs.YtdjknmnmacppdaaDoor
open Go.RowKit Arr Gf Ae Xt

set_option maxHeartbeats 1000000 in
theorem xtogether_any (a b : List Nat) (ha : St a) (hb : St b) (w : World) : Calls Tryd.prog 33 #[.agg (na .u8 a), .agg (na .u8 b)] w (GivesA (xorL a b) w) := by
  have s1 : (w.alloc (.cells (na .u8 a) 34)).heap.size = w.heap.size + 1 := World.size_alloc ..
  have s2 : ((w.alloc (.cells (na .u8 a) 34)).alloc (.cells (na .u8 b) 34)).heap.size = w.heap.size + 1 + 1 := by rw [World.size_alloc, s1]
  have B1 := ((Holds.new w 34 .u8 a).alloc (.cells (na .u8 b) 34)).alloc (.cells (na .u8 (zs 16)) 34)
  have B2 := (Holds.new (w.alloc (.cells (na .u8 a) 34)) 34 .u8 b).alloc (.cells (na .u8 (zs 16)) 34)
  have B3 := Holds.new ((w.alloc (.cells (na .u8 a) 34)).alloc (.cells (na .u8 b) 34)) 34 .u8 (zs 16)
  have B4 := (((Below.refl w.heap.size w).alloc (Nat.le_refl _) (.cells (na .u8 a) 34)).alloc (by rw [s1]; omega) (.cells (na .u8 b) 34)).alloc (by rw [s2]; omega) (.cells (na .u8 (zs 16)) 34)
  rw [s1] at B2
  rw [s2] at B3
  clear s1 s2
  have hla := Lib.hid ha.1
  have hlb := Lib.hid hb.1
  have B1 := Lib.hid B1
  have B2 := Lib.hid B2
  have B3 := Lib.hid B3
  have B4 := Lib.hid B4
  go_enter Tryd.func33, Tryd.ntmps33
  go_wp2_with (first | (with_reducible refine Arr.alloc (t := 34) _ z16 ?_) | fail)
  go_loopw [6] (fun i wr => ∃ k : Nat, k ≤ 16 ∧ i = .int .i64 (k : Nat) ∧ Holds wr w.heap.size .u8 (upto (fun i => a.getD i 0 ^^^ b.getD i 0) (fun i => a.getD i 0) 16 k) ∧ Holds wr (w.heap.size + 1) .u8 b ∧ Holds wr (w.heap.size + 1 + 1) .u8 (zs 16) ∧ Below w.heap.size w wr) (fun i _ => 16 - (intOf i).toNat)
  case atStart => exact ⟨0, by omega, rfl, by rw [upto_zero _ _ _ hla.out]; exact B1.out, B2.out, B3.out, B4.out⟩
  case round =>
    clear B1 B2 B3 B4
    obtain ⟨k, hk, rfl, h1, h2, h3, h4⟩ := hrel
    have H1 := Lib.hid h1; clear h1
    have H2 := Lib.hid h2; clear h2
    have H3 := Lib.hid h3; clear h3
    have H4 := Lib.hid h4; clear h4
    by_cases hlt : k < 16
    · have hlt' : decide ((k : Int) < 16) = true := by simp; omega
      have hx : bits .xor .u8 ((a.getD k 0 : Nat) : Int) ((b.getD k 0 : Nat) : Int) = ((a.getD k 0 ^^^ b.getD k 0 : Nat) : Int) := u8_xor_nat _ _ (ha.2 k) (hb.2 k)
      have HS := upto_succ (fun i => a.getD i 0 ^^^ b.getD i 0) (fun i => a.getD i 0) 16 k hlt
      have hv := upto_get (fun i => a.getD i 0 ^^^ b.getD i 0) (fun i => a.getD i 0) 16 k k hlt
      rw [if_neg (by omega)] at hv
      have lu := length_upto (fun i => a.getD i 0 ^^^ b.getD i 0) (fun i => a.getD i 0) 16 k
      have HS := Lib.hid HS
      generalize upto (fun i => a.getD i 0 ^^^ b.getD i 0) (fun i => a.getD i 0) 16 k = u at *
      have hxy := hx
      generalize hc : a.getD k 0 ^^^ b.getD k 0 = c at *
      have hx0 : (0 : Int) ≤ (c : Int) := by omega
      clear hc
      go_wp2_with fail
      refine region_tail 8 (by kernel_rfl) (by kernel_rfl) ?_
      intro wd hwd
      have G1 : Holds wd w.heap.size .u8 u := by rw [hwd]; exact H1.out.drew
      have G2 : Holds wd (w.heap.size + 1) .u8 b := by rw [hwd]; exact H2.out.drew
      have G3 : Holds wd (w.heap.size + 1 + 1) .u8 (zs 16) := by rw [hwd]; exact H3.out.drew
      have G4 : Below w.heap.size w wd := by rw [hwd]; exact below_drew H4.out
      clear hwd H1 H2 H3 H4
      have c1 := G1.cell k (by omega)
      have f1 := G1.frozen k (by omega)
      have c2 := G2.cell k (by have := hlb.out; omega)
      rw [hv] at c1
      have X1 := G1.set k c (by omega)
      rw [← HS.out] at X1
      have X2 := G2.beside ⟨w.heap.size, k, none⟩ (.int .u8 (c : Int)) (show w.heap.size ≠ w.heap.size + 1 by omega)
      have X3 := G3.beside ⟨w.heap.size, k, none⟩ (.int .u8 (c : Int)) (show w.heap.size ≠ w.heap.size + 1 + 1 by omega)
      have X4 := G4.setCell (p := ⟨w.heap.size, k, none⟩) (Nat.le_refl _) (.int .u8 (c : Int))
      clear G1 G2 G3 G4 hv lu HS
      have X1 := Lib.hid X1
      have X2 := Lib.hid X2
      have X3 := Lib.hid X3
      have X4 := Lib.hid X4
      generalize a.getD k 0 = p at *
      generalize b.getD k 0 = q at *
      have hki : (k : Int) < 16 := by omega
      simp only [List.take_succ_cons, List.take_zero, List.drop_succ_cons, List.drop_zero]
      repeat still_step
      refine wpStill_nil ?_
      go_wp2
      go_roundw
      case rel => exact ⟨k + 1, by omega, by go_num, X1.out, X2.out, X3.out, X4.out⟩
      case measure => simp [intOf]; omega
    · obtain rfl : k = 16 := by omega
      have e : upto (fun i => a.getD i 0 ^^^ b.getD i 0) (fun i => a.getD i 0) 16 16 = xorL a b := upto_all ..
      rw [e] at H1
      have lm : (xorL a b).length = 16 := by simp [xorL]
      generalize xorL a b = m at *
      clear e
      go_wp2_with (first | (with_reducible refine Arr.load o16 w.heap.size m lm H1.out rfl ?_) | (with_reducible refine Arr.store o16 (w.heap.size + 1 + 1) (zs 16) m (length_zs _) H3.out lm rfl rfl ?_))
      exact bodyPost_ret (v := .agg (na .u8 m)) (results_arr o16 rfl _ _ (w.heap.size + 1 + 1) m lm (H3.out.put _ (by rw [lm, length_zs])) rfl) rfl ⟨rfl, below_setCells (by omega) _ _ _ H4.out⟩


/-- One shift by eight places. -/
theorem low_step (n k : Nat) : n / 256 ^ k / 256 = n / 256 ^ (k + 1) := by rw [Nat.div_div_eq_div_mul, Nat.pow_succ]
set_option maxHeartbeats 1000000 in
theorem lowest_any (n : Nat) (w : World) : Calls Tryd.prog 25 #[.int .i64 (n : Int)] w (GivesA (lowL n) w) := by
  obtain ⟨A1, A2, A3⟩ := two_new w (zs 16) 34
  have B1 := Lib.hid A1
  have B2 := Lib.hid A2
  have B3 := Lib.hid A3
  clear A1 A2 A3
  go_enter Tryd.func25, Tryd.ntmps25
  go_wp2_with (first | (with_reducible refine Arr.alloc (t := 34) _ z16 ?_) | fail)
  go_loopw [0, 5] (fun nu i wr => ∃ k : Nat, k ≤ 16 ∧ i = .int .i64 (k : Nat) ∧ nu = .int .i64 ((n / 256 ^ k : Nat) : Int) ∧ Holds wr w.heap.size .u8 (zs 16) ∧ Holds wr (w.heap.size + 1) .u8 (upto (fun i => n / 256 ^ i % 256) (fun _ => 0) 16 k) ∧ Below w.heap.size w wr) (fun _ i _ => 16 - (intOf i).toNat)
  case atStart => exact ⟨0, by omega, rfl, by simp, B1.out, by rw [upto_noughts]; exact B2.out, B3.out⟩
  case round =>
    clear B1 B2 B3
    obtain ⟨k, hk, rfl, rfl, h1, h2, h3⟩ := hrel
    have H1 := Lib.hid h1; clear h1
    have H2 := Lib.hid h2; clear h2
    have H3 := Lib.hid h3; clear h3
    by_cases hlt : k < 16
    · have hlt' : decide ((k : Int) < 16) = true := by simp; omega
      have HS := upto_succ (fun i => n / 256 ^ i % 256) (fun _ => 0) 16 k hlt
      have lu := length_upto (fun i => n / 256 ^ i % 256) (fun _ => 0) 16 k
      have hle : n / 256 ^ k ≤ n := Nat.div_le_self _ _
      have HN := Lib.hid (low_step n k)
      generalize upto (fun i => n / 256 ^ i % 256) (fun _ => 0) 16 k = u at *
      generalize n / 256 ^ k = q at *
      have c2 := H2.out.cell k (by omega)
      have f2 := H2.out.frozen k (by omega)
      have X2 := H2.out.set k (q % 256) (by omega)
      rw [← HS] at X2
      have X1 := H1.out.beside ⟨w.heap.size + 1, k, none⟩ (.int .u8 ((q % 256 : Nat) : Int)) (show w.heap.size + 1 ≠ w.heap.size by omega)
      have X3 := H3.out.setCell (p := ⟨w.heap.size + 1, k, none⟩) (show w.heap.size ≤ w.heap.size + 1 by omega) (.int .u8 ((q % 256 : Nat) : Int))
      have X1 := Lib.hid X1
      have X2 := Lib.hid X2
      have X3 := Lib.hid X3
      clear HS H1 H2 H3
      generalize u.getD k 0 = old at *
      obtain ⟨r, hr⟩ : ∃ r, r = q % 256 := ⟨_, rfl⟩
      have e1 : IntKind.u8.wrap (q : Int) = (r : Int) := by rw [IntKind.wrap_u8, hr]; omega
      have e2 : (q : Int) % 256 = (r : Int) := by omega
      obtain ⟨p, hp⟩ : ∃ p, p = q / 256 := ⟨_, rfl⟩
      have e3 : (q : Int) / 256 = (p : Int) := by omega
      rw [← hr] at X1 X2 X3
      rw [← hp] at HN
      clear hr hp
      go_wp2
      go_roundw
      case rel => exact ⟨k + 1, by omega, by go_num, by rw [← HN.out], X1.out, X2.out, X3.out⟩
      case measure => simp [intOf]; omega
    · obtain rfl : k = 16 := by omega
      have e : upto (fun i => n / 256 ^ i % 256) (fun _ => 0) 16 16 = lowL n := upto_all ..
      rw [e] at H2
      have lm : (lowL n).length = 16 := by simp [lowL]
      generalize lowL n = m at *
      clear e
      go_wp2_with (first | (with_reducible refine Arr.load o16 (w.heap.size + 1) m lm H2.out rfl ?_) | (with_reducible refine Arr.store o16 w.heap.size (zs 16) m (length_zs _) H1.out lm rfl rfl ?_))
      exact bodyPost_ret (v := .agg (na .u8 m)) (results_arr o16 rfl _ _ w.heap.size m lm (H1.out.put _ (by rw [lm, length_zs])) rfl) rfl ⟨rfl, below_setCells (Nat.le_refl _) _ _ _ H3.out⟩

/-- Is it a sector? -/
def isSec (n : Nat) : Bool := decide (16 ≤ n) && decide (n ≤ 4096) && decide (n % 16 = 0)
theorem isSector_any (A : Option Addr) (n c : Nat) (w : World) : Calls Tryd.prog 32 #[.slice A n c] w fun e w' => e = .returned (.bool (isSec n)) ∧ w = w' := by
  by_cases h1 : 16 ≤ n
  · have t1 : decide ((n : Int) ≥ 16) = true := by simp; omega
    have t1' : decide (16 ≤ (n : Int)) = true := by simp; omega
    have t1n : decide (16 ≤ n) = true := by simp; omega
    by_cases h2 : n ≤ 4096
    · have t2 : decide ((n : Int) ≤ 4096) = true := by simp; omega
      have t2n : decide (n ≤ 4096) = true := by simp; omega
      by_cases h3 : n % 16 = 0
      · have e2 : (n : Int) % 16 = 0 := by omega
        have e1 : (n : Int).tmod 16 = 0 := by rw [Int.tmod_eq_emod_of_nonneg (by omega)]; exact e2
        have t4 : ((n : Int) % 16 == 0) = true := by simp; omega
        have hm : isSec n = true := by simp [isSec, h1, h2, h3]
        rw [hm]
        clear hm h3
        go_enter Tryd.func32, Tryd.ntmps32
        go_wp2
        go_ret
        exact ⟨rfl, rfl⟩
      · obtain ⟨r, hr⟩ : ∃ r, r = n % 16 := ⟨_, rfl⟩
        have e2 : (n : Int) % 16 = (r : Int) := by omega
        have e1 : (n : Int).tmod 16 = (r : Int) := by rw [Int.tmod_eq_emod_of_nonneg (by omega)]; exact e2
        have t4 : ((r : Int) == 0) = false := by simp; omega
        have hm : isSec n = false := by simp [isSec, h3]
        rw [hm]
        clear hm h3 hr
        go_enter Tryd.func32, Tryd.ntmps32
        go_wp2
        go_ret
        exact ⟨rfl, rfl⟩
    · have t2 : decide ((n : Int) ≤ 4096) = false := by simp; omega
      have t2n : decide (n ≤ 4096) = false := by simp; omega
      have hm : isSec n = false := by simp [isSec, t2n]
      rw [hm]
      clear hm
      go_enter Tryd.func32, Tryd.ntmps32
      go_wp2
      go_ret
      exact ⟨rfl, rfl⟩
  · have t1 : decide ((n : Int) ≥ 16) = false := by simp; omega
    have t1' : decide (16 ≤ (n : Int)) = false := by simp; omega
    have t1n : decide (16 ≤ n) = false := by simp; omega
    have hm : isSec n = false := by simp [isSec, t1n]
    rw [hm]
    clear hm
    go_enter Tryd.func32, Tryd.ntmps32
    go_wp2
    go_ret
    exact ⟨rfl, rfl⟩
end Go.Proofs.YtdjknmnmacppdaaDoor
