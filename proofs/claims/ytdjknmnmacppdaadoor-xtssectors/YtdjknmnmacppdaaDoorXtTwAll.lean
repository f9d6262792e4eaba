/-
  Contracts of xts.New and of made. Conditions: the key's bytes lie in its slice, the table of widths in its variable.
  The contract of xts's Tweak. Conditions: the sector lies in its block.
  What stands while a sector is turned. Own lemmas; no conditions.
-/
import Derived.Test.YtdjknmnmacppdaaDoorXtFnAll
import Derived.Test.YtdjknmnmacppdaaDoorAesKek
import Derived.Test.YtdjknmnmacppdaaDoorCut
import Derived.Test.YtdjknmnmacppdaaDoorArrAll
import Derived.Deep.RegionHeld3
import Derived.Deep.Cut
namespace Go.Proofs.YtdjknmnmacppdaaDoor
open Go.RowKit Arr Gf Sb Ae Xt

/-- The first key, and the second. -/
def ka (ks : List Nat) : List Nat := ks.take (ks.length / 2)
def kb (ks : List Nat) : List Nat := (ks.drop (ks.length / 2)).take (ks.length - ks.length / 2)
/-- A key that is one. -/
def okKey (n : Nat) : Prop := n = 32 ∨ n = 64
theorem len_ka {ks : List Nat} (h : okKey ks.length) : (ka ks).length = 16 ∨ (ka ks).length = 32 := by
  simp only [okKey] at h; simp [ka]; omega
theorem len_kb {ks : List Nat} (h : okKey ks.length) : (kb ks).length = 16 ∨ (kb ks).length = 32 := by
  simp only [okKey] at h; simp [kb]; omega
/-- Block g is a sector of two ciphers. -/
structure Sec (w : World) (g g1 g2 : Nat) (ks : List Nat) : Prop where
  one : w.cell? ⟨g, 0, none⟩ = some (.pointer (some ⟨g1, 0, none⟩))
  two : w.cell? ⟨g, 1, none⟩ = some (.pointer (some ⟨g2, 0, none⟩))
  c1 : Ciph w g1 (rr (ka ks)) (kk (ka ks))
  c2 : Ciph w g2 (rr (kb ks)) (kk (kb ks))
theorem Sec.lt {w : World} {g g1 g2 : Nat} {ks : List Nat} (h : Sec w g g1 g2 ks) : g < w.heap.size := lt_of_cell h.one
theorem Sec.below {w w' : World} {g g1 g2 : Nat} {ks : List Nat} (h : Sec w g g1 g2 ks) (hb : Below w.heap.size w w') : Sec w' g g1 g2 ks :=
  ⟨(hb.cell (p := ⟨g, 0, none⟩) h.lt).trans h.one, (hb.cell (p := ⟨g, 1, none⟩) h.lt).trans h.two, h.c1.below hb h.c1.lt, h.c2.below hb h.c2.lt⟩

/-- What New leaves. -/
def MadeS (ks : List Nat) (w : World) (e : Ending) (w' : World) : Prop := ∃ g g1 g2, e = .returned (.tuple #[.pointer (some ⟨g, 0, none⟩), .int .i64 0]) ∧ Sec w' g g1 g2 ks ∧ Below w.heap.size w w'
def NotS (w : World) (e : Ending) (w' : World) : Prop := e = .returned (.tuple #[.pointer none, .int .i64 20]) ∧ Below w.heap.size w w'

/-- The first h bytes. -/
theorem bys_take {w : World} {B : Nat} {A : Option Addr} {bs : List Nat} (hb : Bys w B A bs) (h : Nat) : Bys w B A (bs.take h) := by
  refine ⟨fun x hx => hb.1 x (List.mem_of_mem_take hx), fun hp => ?_⟩
  have hp' : 0 < h ∧ 0 < bs.length := by simp at hp; omega
  obtain ⟨b, off, rfl, hbB, hc⟩ := hb.2 hp'.2
  refine ⟨b, off, rfl, hbB, fun i hi => ?_⟩
  have hi' : i < h ∧ i < bs.length := by simp at hi; omega
  rw [hc i hi'.2]
  simp [List.getD_eq_getElem?_getD, hi'.1]

section
variable {ks : List Nat} {A : Option Addr} {n c : Nat} {w : World}
set_option maxHeartbeats 1000000 in
theorem xnew_ok (hn : ks.length = n) (hk : okKey n) (hc : n ≤ c) (hb : Bys w w.heap.size A ks) (ht : Tab w 0) :
    Calls Tryd.prog 7 #[.slice A n c] w (MadeS ks w) := by
  have hk0 : okKey ks.length := by rw [hn]; exact hk
  simp only [okKey] at hk
  obtain ⟨h, hh⟩ : ∃ h, h = n / 2 := ⟨_, rfl⟩
  have hh2 : h + h = n := by omega
  have e1 : (n : Int) / 2 = (h : Int) := by omega
  have e2 : (n : Int).tdiv 2 = (h : Int) := by rw [Int.tdiv_eq_ediv_of_nonneg (by omega)]; exact e1
  have hl : ks.length / 2 = h := by rw [hn, hh]
  have hka : ka ks = ks.take h := by rw [ka, hl]
  have hkb : kb ks = (ks.drop h).take (n - h) := by rw [kb, hl, hn]
  have wh : IntKind.i64.wrap (h : Int) = (h : Int) := by rw [IntKind.wrap_i64]; omega
  have R2 := Lib.hid (fun W => run_cut_l A n c h (by omega) W)
  have C1 := Lib.hid (new_kek (ka ks) (len_ka hk0) A h c (by rw [hka]; simp; omega) (by omega) w (by rw [hka]; exact bys_take hb h) ht)
  have C2 : Go.RowKit.Hid (∀ w', Below w.heap.size w w' → Calls Tryd.prog 16 #[.slice (cutA A c h) (n - h) (c - h)] w' fun e w'' => ∃ g, e = .returned (.tuple #[.pointer (some ⟨g, 0, none⟩), .int .i64 0]) ∧ Ciph w'' g (rr (kb ks)) (kk (kb ks)) ∧ w'.heap.size ≤ g ∧ Below w'.heap.size w' w'') := Lib.hid (fun w' hw =>
    new_kek (kb ks) (len_kb hk0) (cutA A c h) (n - h) (c - h) (by rw [hkb]; simp; omega) (by omega) w' (by rw [hkb]; exact bys_cut ((hb.below hw).more hw.size) c (by omega) h n (by omega) (by omega)) (ht.below hw ht.lt))
  clear hn hk0 hk hb ht hh hl hka hkb
  go_enter Tryd.func7, Tryd.ntmps7
  go_wp2_with fail
  refine C1.out.mono ?_
  rintro e w1 ⟨g1, rfl, hc1, hge1, hb1⟩
  have r2 := R2.out w1
  have D2 := Lib.hid (C2.out w1 hb1)
  have HC1 := Lib.hid hc1
  have HB1 := Lib.hid hb1
  clear hc1 hb1 C1 C2 R2
  go_wp2_with fail
  refine D2.out.mono ?_
  rintro e w2 ⟨g2, rfl, hc2, hge2, hb2⟩
  have K1 := HC1.out.below hb2 HC1.out.lt
  have K2 := hc2
  have hB := HB1.out.trans (hb2.mono HB1.out.size)
  have hA := below_alloc w2 (.cells #[.pointer (some ⟨g1, 0, none⟩), .pointer (some ⟨g2, 0, none⟩)] 46)
  have hlast := heap_alloc_last w2 (.cells #[.pointer (some ⟨g1, 0, none⟩), .pointer (some ⟨g2, 0, none⟩)] 46)
  have HS := Lib.hid (show MadeS ks w (.returned (.tuple #[.pointer (some ⟨w2.heap.size, 0, none⟩), .int .i64 0])) (w2.alloc (.cells #[.pointer (some ⟨g1, 0, none⟩), .pointer (some ⟨g2, 0, none⟩)] 46)) from
    ⟨_, g1, g2, rfl, ⟨by rw [cell_of_row _ _ _ _ _ _ hlast]; rfl, by rw [cell_of_row _ _ _ _ _ _ hlast]; rfl, K1.below hA K1.lt, K2.below hA K2.lt⟩, hB.trans (hA.mono hB.size)⟩)
  clear K1 K2 hB hA hlast hc2 hb2 HC1 HB1
  go_wp2
  go_ret2
  exact HS.out

theorem xnew_bad (hn : ks.length = n) (hs : n ≤ 1000000) (hk : ¬ okKey n) (hc : n ≤ c) (hb : Bys w w.heap.size A ks) (ht : Tab w 0) :
    Calls Tryd.prog 7 #[.slice A n c] w (NotS w) := by
  simp only [okKey] at hk
  obtain ⟨h, hh⟩ : ∃ h, h = n / 2 := ⟨_, rfl⟩
  have e1 : (n : Int) / 2 = (h : Int) := by omega
  have e2 : (n : Int).tdiv 2 = (h : Int) := by rw [Int.tdiv_eq_ediv_of_nonneg (by omega)]; exact e1
  have wh : IntKind.i64.wrap (h : Int) = (h : Int) := by rw [IntKind.wrap_i64]; omega
  have R2 := Lib.hid (fun W => run_cut_l A n c h (by omega) W)
  by_cases h16 : h = 16 ∨ h = 32
  · have hl : (ks.take h).length = h := by simp; omega
    have C1 := Lib.hid (new_kek (ks.take h) (by rw [hl]; exact h16) A h c hl (by omega) w (bys_take hb h) ht)
    have C2 := Lib.hid (fun w' => new_none (cutA A c h) (n - h) (c - h) (by omega) (by omega) w')
    have hnh : h ≤ n := by omega
    clear hn hb ht hh hl h16 hk
    go_enter Tryd.func7, Tryd.ntmps7
    go_wp2_with fail
    refine C1.out.mono ?_
    rintro e w1 ⟨g1, rfl, hc1, hge1, hb1⟩
    have r2 := R2.out w1
    have HB1 := Lib.hid hb1
    clear hc1 hb1 C1 R2
    go_wp2_with fail
    refine (C2.out w1).mono ?_
    rintro e w2 ⟨rfl, rfl⟩
    go_wp2
    go_ret2
    exact ⟨rfl, HB1.out⟩
  · have C1 := Lib.hid (new_none A h c (by omega) (by omega) w)
    clear hn hb ht hh h16 hk
    go_enter Tryd.func7, Tryd.ntmps7
    go_wp2_with fail
    refine C1.out.mono ?_
    rintro e w1 ⟨rfl, rfl⟩
    go_wp2
    go_ret2
    exact ⟨rfl, Below.refl _ _⟩

theorem made_nil : Calls Tryd.prog 23 #[.pointer none] w fun e w' => e = .returned (.bool false) ∧ w = w' := by
  go_enter Tryd.func23, Tryd.ntmps23
  go_wp2
  go_ret
  exact ⟨rfl, rfl⟩
theorem made_any {g g1 g2 : Nat} (h : Sec w g g1 g2 ks) : Calls Tryd.prog 23 #[.pointer (some ⟨g, 0, none⟩)] w fun e w' => e = .returned (.bool true) ∧ w = w' := by
  have h1 := h.one
  clear h
  go_enter Tryd.func23, Tryd.ntmps23
  go_wp2
  go_ret
  exact ⟨rfl, rfl⟩
end
end Go.Proofs.YtdjknmnmacppdaaDoor
namespace Go.Proofs.YtdjknmnmacppdaaDoor
open Go.RowKit Arr Gf Sb Ae Xt

/-- An array of 16 bytes, and an error's number. -/
def GivesT (m : List Nat) (x : Nat) (w : World) (e : Ending) (w' : World) : Prop := e = .returned (.tuple #[.agg (na .u8 m), .int .i64 (x : Int)]) ∧ Below w.heap.size w w'
/-- A block's tweak. -/
def twk (ks : List Nat) (n k : Nat) : List Nat := dblN (enc (rr (kb ks)) (kk (kb ks)) (lowL n)) k
theorem st_twk {ks : List Nat} (h : okKey ks.length) (n k : Nat) : St (twk ks n k) := st_dblN (st_enc (kk_ok (len_kb h)) (st_low n)) k
/-- Is there a tweak? -/
def okTw (n b : Int) : Bool := decide (0 ≤ n) && decide (n ≤ 4611686018427387904) && decide (0 ≤ b) && decide (b < 256)

section
variable {ks : List Nat} {g g1 g2 : Nat} {w : World}
theorem xtweak_nil (n b : Int) : Calls Tryd.prog 13 #[.pointer none, .int .i64 n, .int .i64 b] w (GivesT (zs 16) 1 w) := by
  have C0 := Lib.hid (fun w' => made_nil (w := w'))
  have B1 := Lib.hid (Holds.new w 34 .u8 (zs 16))
  have B2 := Lib.hid (below_alloc w (.cells (na .u8 (zs 16)) 34))
  go_enter Tryd.func13, Tryd.ntmps13
  go_wp2_with (first | (with_reducible refine Arr.alloc (t := 34) _ z16 ?_) | fail)
  refine (C0.out _).mono ?_
  rintro e w1 ⟨rfl, rfl⟩
  go_wp2_with (first | (with_reducible refine Arr.build_none (t := 34) _ b16 ?_) | (with_reducible refine Arr.store o16 w.heap.size (zs 16) (zs 16) (length_zs _) B1.out (length_zs _) rfl rfl ?_) | fail)
  exact bodyPost_ret (v := .tuple #[.agg (na .u8 (zs 16)), .int .i64 1]) (results_arr2 o16 rfl _ _ w.heap.size (zs 16) (length_zs _) (B1.out.put _ rfl) rfl _ rfl) rfl ⟨rfl, below_setCells (Nat.le_refl _) _ _ _ B2.out⟩

theorem xtweak_bad (h : Sec w g g1 g2 ks) (n b : Int) (hnb : okTw n b = false) : Calls Tryd.prog 13 #[.pointer (some ⟨g, 0, none⟩), .int .i64 n, .int .i64 b] w (GivesT (zs 16) 2 w) := by
  have B1 := Lib.hid (Holds.new w 34 .u8 (zs 16))
  have B2 := Lib.hid (below_alloc w (.cells (na .u8 (zs 16)) 34))
  have C0 := Lib.hid (made_any (h.below B2.out))
  have hp : n < 0 ∨ (0 ≤ n ∧ 4611686018427387904 < n) ∨ (0 ≤ n ∧ n ≤ 4611686018427387904 ∧ b < 0) ∨ (0 ≤ n ∧ n ≤ 4611686018427387904 ∧ 0 ≤ b ∧ 256 ≤ b) := by
    by_cases q1 : n < 0
    · exact .inl q1
    · by_cases q2 : 4611686018427387904 < n
      · exact .inr (.inl ⟨by omega, q2⟩)
      · by_cases q3 : b < 0
        · exact .inr (.inr (.inl ⟨by omega, by omega, q3⟩))
        · refine .inr (.inr (.inr ⟨by omega, by omega, by omega, ?_⟩))
          by_cases q4 : b < 256
          · have : okTw n b = true := by simp only [okTw, Bool.and_eq_true, decide_eq_true_eq]; omega
            rw [hnb] at this; cases this
          · omega
  clear h hnb
  rcases hp with q1 | ⟨q1, q2⟩ | ⟨q1, q2, q3⟩ | ⟨q1, q2, q3, q4⟩
  · have t1 : decide (n < 0) = true := by simp; omega
    go_enter Tryd.func13, Tryd.ntmps13
    go_wp2_with (first | (with_reducible refine Arr.alloc (t := 34) _ z16 ?_) | fail)
    refine C0.out.mono ?_
    rintro e w1 ⟨rfl, rfl⟩
    go_wp2_with (first | (with_reducible refine Arr.build_none (t := 34) _ b16 ?_) | (with_reducible refine Arr.store o16 w.heap.size (zs 16) (zs 16) (length_zs _) B1.out (length_zs _) rfl rfl ?_) | fail)
    exact bodyPost_ret (v := .tuple #[.agg (na .u8 (zs 16)), .int .i64 2]) (results_arr2 o16 rfl _ _ w.heap.size (zs 16) (length_zs _) (B1.out.put _ rfl) rfl _ rfl) rfl ⟨rfl, below_setCells (Nat.le_refl _) _ _ _ B2.out⟩
  · have t1 : decide (n < 0) = false := by simp; omega
    have t2 : decide (n > 4611686018427387904) = true := by simp; omega
    have t2' : decide (4611686018427387904 < n) = true := by simp; omega
    go_enter Tryd.func13, Tryd.ntmps13
    go_wp2_with (first | (with_reducible refine Arr.alloc (t := 34) _ z16 ?_) | fail)
    refine C0.out.mono ?_
    rintro e w1 ⟨rfl, rfl⟩
    go_wp2_with (first | (with_reducible refine Arr.build_none (t := 34) _ b16 ?_) | (with_reducible refine Arr.store o16 w.heap.size (zs 16) (zs 16) (length_zs _) B1.out (length_zs _) rfl rfl ?_) | fail)
    exact bodyPost_ret (v := .tuple #[.agg (na .u8 (zs 16)), .int .i64 2]) (results_arr2 o16 rfl _ _ w.heap.size (zs 16) (length_zs _) (B1.out.put _ rfl) rfl _ rfl) rfl ⟨rfl, below_setCells (Nat.le_refl _) _ _ _ B2.out⟩
  · have t1 : decide (n < 0) = false := by simp; omega
    have t2 : decide (n > 4611686018427387904) = false := by simp; omega
    have t2' : decide (4611686018427387904 < n) = false := by simp; omega
    have t3 : decide (b < 0) = true := by simp; omega
    go_enter Tryd.func13, Tryd.ntmps13
    go_wp2_with (first | (with_reducible refine Arr.alloc (t := 34) _ z16 ?_) | fail)
    refine C0.out.mono ?_
    rintro e w1 ⟨rfl, rfl⟩
    go_wp2_with (first | (with_reducible refine Arr.build_none (t := 34) _ b16 ?_) | (with_reducible refine Arr.store o16 w.heap.size (zs 16) (zs 16) (length_zs _) B1.out (length_zs _) rfl rfl ?_) | fail)
    exact bodyPost_ret (v := .tuple #[.agg (na .u8 (zs 16)), .int .i64 2]) (results_arr2 o16 rfl _ _ w.heap.size (zs 16) (length_zs _) (B1.out.put _ rfl) rfl _ rfl) rfl ⟨rfl, below_setCells (Nat.le_refl _) _ _ _ B2.out⟩
  · have t1 : decide (n < 0) = false := by simp; omega
    have t2 : decide (n > 4611686018427387904) = false := by simp; omega
    have t2' : decide (4611686018427387904 < n) = false := by simp; omega
    have t3 : decide (b < 0) = false := by simp; omega
    have t4 : decide (b ≥ 256) = true := by simp; omega
    have t4' : decide (256 ≤ b) = true := by simp; omega
    go_enter Tryd.func13, Tryd.ntmps13
    go_wp2_with (first | (with_reducible refine Arr.alloc (t := 34) _ z16 ?_) | fail)
    refine C0.out.mono ?_
    rintro e w1 ⟨rfl, rfl⟩
    go_wp2_with (first | (with_reducible refine Arr.build_none (t := 34) _ b16 ?_) | (with_reducible refine Arr.store o16 w.heap.size (zs 16) (zs 16) (length_zs _) B1.out (length_zs _) rfl rfl ?_) | fail)
    exact bodyPost_ret (v := .tuple #[.agg (na .u8 (zs 16)), .int .i64 2]) (results_arr2 o16 rfl _ _ w.heap.size (zs 16) (length_zs _) (B1.out.put _ rfl) rfl _ rfl) rfl ⟨rfl, below_setCells (Nat.le_refl _) _ _ _ B2.out⟩

theorem Ciph.sets {w : World} {gc r b o : Nat} {K : List Nat} {vs : List Value} (h : Ciph w gc r K) (hg : gc ≠ b) : Ciph (w.setCells b o vs) gc r K :=
  ⟨cell_apart 0 _ _ _ _ h.rounds (.inl hg), h.len, h.keys.apart _ _ _ (.inl hg), h.box.apart _ _ _ (.inl hg), h.back.apart _ _ _ (.inl hg), h.twice.apart _ _ _ (.inl hg)⟩
theorem Sec.sets {b o : Nat} {vs : List Value} (h : Sec w g g1 g2 ks) (hg : g ≠ b ∧ g1 ≠ b ∧ g2 ≠ b) : Sec (w.setCells b o vs) g g1 g2 ks :=
  ⟨cell_apart 0 _ _ _ _ h.one (.inl hg.1), cell_apart 1 _ _ _ _ h.two (.inl hg.1), h.c1.sets hg.2.1, h.c2.sets hg.2.2⟩
/-- What is held in Tweak's last statement. -/
structure TwS (w : World) (g g1 g2 : Nat) (ks : List Nat) (w' : World) : Prop where
  sec : Sec w' g g1 g2 ks
  res : ∃ m, m.length = 16 ∧ Holds w' w.heap.size .u8 m
  bel : Below w.heap.size w w'
theorem TwS.next {w' w'' : World} (h : TwS w g g1 g2 ks w') (hb : Below w'.heap.size w' w'') : TwS w g g1 g2 ks w'' := by
  obtain ⟨m, hm, hr⟩ := h.res
  exact ⟨h.sec.below hb, ⟨m, hm, hr.below hb (hr.lt (by omega))⟩, h.bel.trans (hb.mono h.bel.size)⟩

set_option maxHeartbeats 2000000 in
theorem xtweak_ok (h : Sec w g g1 g2 ks) (hk : okKey ks.length) (n b : Nat) (hn : n ≤ 4611686018427387904) (hb : b < 256) : Calls Tryd.prog 13 #[.pointer (some ⟨g, 0, none⟩), .int .i64 (n : Int), .int .i64 (b : Int)] w (GivesT (twk ks n b) 0 w) := by
  have B1 := Lib.hid (Holds.new w 34 .u8 (zs 16))
  have B2 := Lib.hid (below_alloc w (.cells (na .u8 (zs 16)) 34))
  have HSc := Lib.hid (h.below B2.out)
  have HNE := Lib.hid (show g ≠ w.heap.size ∧ g1 ≠ w.heap.size ∧ g2 ≠ w.heap.size from ⟨Nat.ne_of_lt h.lt, Nat.ne_of_lt h.c1.lt, Nat.ne_of_lt h.c2.lt⟩)
  have C0 := Lib.hid (made_any HSc.out)
  have t1 : decide ((n : Int) < 0) = false := by simp
  have t2 : decide ((n : Int) > 4611686018427387904) = false := by simp; omega
  have t2' : decide (4611686018427387904 < (n : Int)) = false := by simp; omega
  have t3 : decide ((b : Int) < 0) = false := by simp
  have t4 : decide ((b : Int) ≥ 256) = false := by simp; omega
  have t4' : decide (256 ≤ (b : Int)) = false := by simp; omega
  have C1 := Lib.hid (fun w' => lowest_any n w')
  have S1 := st_low n
  have C2 := Lib.hid (fun w' (h' : Ciph w' g2 (rr (kb ks)) (kk (kb ks))) => encrypt_any g2 _ (rr_le (len_kb hk)).1 (rr_le (len_kb hk)).2 _ (lowL n) (kk_ok (len_kb hk)) S1 w' h')
  have S2 := st_enc (kk_ok (len_kb hk)) S1
  have C3 : Go.RowKit.Hid (∀ w', Calls Tryd.prog 24 #[.agg (na .u8 (enc (rr (kb ks)) (kk (kb ks)) (lowL n))), .int .i64 (b : Int)] w' (GivesA (twk ks n b) w')) := Lib.hid (fun w' => doubled_in _ S2.1 S2.2 b (by omega) w')
  have L3 := (st_twk hk n b).1
  generalize enc (rr (kb ks)) (kk (kb ks)) (lowL n) = x2 at *
  generalize twk ks n b = x3 at *
  generalize lowL n = x1 at *
  clear h hk hn hb S1 S2
  go_enter Tryd.func13, Tryd.ntmps13
  go_wp2_with (first | (with_reducible refine Arr.alloc (t := 34) _ z16 ?_) | fail)
  refine C0.out.mono ?_
  rintro e w1 ⟨rfl, rfl⟩
  have ST : Go.RowKit.Hid (TwS w g g1 g2 ks (w.alloc (.cells (na .u8 (zs 16)) 34)).drew) := Lib.hid ⟨HSc.out.below (below_drew (Below.refl _ _)), ⟨_, length_zs _, B1.out.drew⟩, below_drew B2.out⟩
  clear B1 B2 HSc C0
  go_upto_region 5 with fail
  clear t1 t2 t2' t3 t4 t4'
  refine wp_region_held_drew (S := TwS w g g1 g2 ks) (by kernel_rfl) ST.out (fun hHeld => ?_)
  clear ST
  generalize (w.alloc (.cells (na .u8 (zs 16)) 34)).drew = wq at *
  refine wpAnyH_take (i := 0) (v := ?_) rfl (by kernel_rfl) (by kernel_rfl) (by kernel_rfl) (fun _ _ _ h => h) (Or.inl ⟨by rfl, ?_⟩) (by assumption) ?_
  rotate_left
  · (intro wz hSw; go_simp; try with_reducible rfl)
  try simp only [List.getElem_toArray, List.getElem_cons_zero, Act.put, List.setIfInBounds_toArray, List.set_cons_zero, List.set_cons_succ]
  refine wpAnyH_take (i := 1) (v := ?_) rfl (by kernel_rfl) (by kernel_rfl) (by kernel_rfl) (fun _ _ _ h => h) (Or.inl ⟨by rfl, ?_⟩) (by assumption) ?_
  rotate_left
  · (intro wz hSw; go_simp; try with_reducible rfl)
  try simp only [List.getElem_toArray, List.getElem_cons_zero, List.getElem_cons_succ, Act.put, List.setIfInBounds_toArray, List.set_cons_zero, List.set_cons_succ]
  refine wpAnyH_take (i := 2) (v := ?_) rfl (by kernel_rfl) (by kernel_rfl) (by kernel_rfl) (fun _ _ _ h => h) (Or.inl ⟨by rfl, ?_⟩) (by assumption) ?_
  rotate_left
  · (intro wz hSw; go_simp; try with_reducible rfl)
  try simp only [List.getElem_toArray, List.getElem_cons_zero, List.getElem_cons_succ, Act.put, List.setIfInBounds_toArray, List.set_cons_zero, List.set_cons_succ]
  refine wpAnyH_take (i := 3) (v := ?_) rfl (by kernel_rfl) (by kernel_rfl) (by kernel_rfl) (fun _ _ _ h => h) (Or.inl ⟨by rfl, ?_⟩) (by assumption) ?_
  rotate_left
  · (intro wz hSw; have h2 := hSw.sec.two; go_simp; try with_reducible rfl)
  try simp only [List.getElem_toArray, List.getElem_cons_zero, List.getElem_cons_succ, Act.put, List.setIfInBounds_toArray, List.set_cons_zero, List.set_cons_succ]
  refine wpAnyH_take (i := 4) (v := ?_) rfl (by kernel_rfl) (by kernel_rfl) (by kernel_rfl) (fun _ _ _ h => h) (Or.inl ⟨by rfl, ?_⟩) (by assumption) ?_
  rotate_left
  · (intro wz hSw; go_simp; try with_reducible rfl)
  try simp only [List.getElem_toArray, List.getElem_cons_zero, List.getElem_cons_succ, Act.put, List.setIfInBounds_toArray, List.set_cons_zero, List.set_cons_succ]
  refine wpAnyH_take (i := 7) (v := ?_) rfl (by kernel_rfl) (by kernel_rfl) (by kernel_rfl) (fun _ _ _ h => h) (Or.inl ⟨by rfl, ?_⟩) (by assumption) ?_
  rotate_left
  · (intro wz hSw; go_simp; try with_reducible rfl)
  try simp only [List.getElem_toArray, List.getElem_cons_zero, List.getElem_cons_succ, Act.put, List.setIfInBounds_toArray, List.set_cons_zero, List.set_cons_succ]
  refine wpAnyH_ready (rs := [5]) (by kernel_rfl) (by simp) (AllReadyH.cons rfl (fun K hK => ?_) AllReadyH.nil)
  go_simp
  refine (C1.out wq).mono ?_
  rintro e w5 ⟨rfl, hb5⟩
  refine hK.out _ _ (hHeld.next hb5) (fun hHeld2 => ?_)
  clear hHeld hK K hb5; have hHeld := hHeld2; clear hHeld2
  try simp only [List.getElem_toArray, List.getElem_cons_zero, List.getElem_cons_succ, Act.put, List.setIfInBounds_toArray, List.set_cons_zero, List.set_cons_succ]
  refine wpAnyH_ready (rs := [6]) (by kernel_rfl) (by simp) (AllReadyH.cons rfl (fun K hK => ?_) AllReadyH.nil)
  go_simp
  refine (C2.out w5 hHeld.sec.c2).mono ?_
  rintro e w6 ⟨rfl, hb6⟩
  refine hK.out _ _ (hHeld.next hb6) (fun hHeld2 => ?_)
  clear hHeld hK K hb6; have hHeld := hHeld2; clear hHeld2
  try simp only [List.getElem_toArray, List.getElem_cons_zero, List.getElem_cons_succ, Act.put, List.setIfInBounds_toArray, List.set_cons_zero, List.set_cons_succ]
  refine wpAnyH_ready (rs := [8]) (by kernel_rfl) (by simp) (AllReadyH.cons rfl (fun K hK => ?_) AllReadyH.nil)
  go_simp
  refine (C3.out w6).mono ?_
  rintro e w8 ⟨rfl, hb8⟩
  refine hK.out _ _ (hHeld.next hb8) (fun hHeld2 => ?_)
  clear hHeld hK K hb8; have hHeld := hHeld2; clear hHeld2
  try simp only [List.getElem_toArray, List.getElem_cons_zero, List.getElem_cons_succ, Act.put, List.setIfInBounds_toArray, List.set_cons_zero, List.set_cons_succ]
  refine wpAnyH_ready (rs := [9]) (by kernel_rfl) (by simp) (AllReadyH.cons rfl (fun K hK => ?_) AllReadyH.nil)
  obtain ⟨m0, lm0, hm0⟩ := hHeld.res
  have hbel := hHeld.bel
  have HB9 := Lib.hid (below_setCells (b := w.heap.size) (Nat.le_refl _) (nv .u8 x3) 0 w8 hbel)
  have HP9 := Lib.hid (hm0.put x3 (by rw [L3, lm0]))
  have T9 : TwS w g g1 g2 ks (w8.setCells w.heap.size 0 (nv .u8 x3)) := ⟨hHeld.sec.sets HNE.out, ⟨x3, L3, HP9.out⟩, HB9.out⟩
  refine if_store o16 rfl w.heap.size m0 x3 lm0 hm0 L3 (x := .tmp 6) (y := .tmp 35) rfl rfl rfl ?_
  refine hK.out _ _ T9 (fun hHeld2 => ?_)
  clear hHeld hK K T9 hbel hm0; have hHeld := hHeld2; clear hHeld2
  try simp only [List.getElem_toArray, List.getElem_cons_zero, List.getElem_cons_succ, Act.put]
  refine wpAnyH_ready (rs := [10]) (by kernel_rfl) (by simp) (AllReadyH.cons rfl (fun K hK => ?_) AllReadyH.nil)
  go_simp
  refine hK.out _ _ hHeld (fun _ => ?_)
  clear hHeld hK K
  try simp only [List.getElem_toArray, List.getElem_cons_zero, List.getElem_cons_succ, Act.put, List.setIfInBounds_toArray, List.set_cons_zero, List.set_cons_succ]
  refine wpAnyH_done (by kernel_rfl) ?_ _
  go_wp2
  exact bodyPost_ret (v := .tuple #[.agg (na .u8 x3), .int .i64 0]) (results_arr2 o16 rfl _ _ w.heap.size x3 L3 HP9.out rfl _ rfl) rfl ⟨rfl, HB9.out⟩
end
end Go.Proofs.YtdjknmnmacppdaaDoor
namespace Go.Proofs.YtdjknmnmacppdaaDoor
open Go.RowKit Arr Gf Sb Ae Xt

/-- The answer, k blocks turned. -/
def outP (f : List Nat → List Nat) (t b : List Nat) (n k : Nat) : List Nat := outN f t b k ++ zs (n - 16 * k)
theorem len_outP {f : List Nat → List Nat} {t b : List Nat} {n k : Nat} (h : 16 * k ≤ n) : (outP f t b n k).length = n := by
  rw [outP, List.length_append, len_outN, length_zs]; omega
theorem outP_zero (f : List Nat → List Nat) (t b : List Nat) (n : Nat) : outP f t b n 0 = zs n := by simp [outP, outN]
theorem outP_all {f : List Nat → List Nat} {t b : List Nat} {n m : Nat} (h : n = 16 * m) : outP f t b n m = outN f t b m := by
  rw [outP, h, Nat.sub_self]; simp [zs]
theorem outP_next {f : List Nat → List Nat} {t b : List Nat} {n k : Nat} : spl (outP f t b n k) (16 * k) (bkt f (dblN t k) (pc b k)) = outP f t b n (k + 1) := by
  have l1 := len_outN (f := f) t b k
  have l2 : (bkt f (dblN t k) (pc b k)).length = 16 := by simp [bkt, xorL]
  have e1 : (outN f t b k ++ zs (n - 16 * k)).take (16 * k) = outN f t b k := by rw [← l1, List.take_left]
  have e2 : (outN f t b k ++ zs (n - 16 * k)).drop (16 * k + 16) = zs (n - 16 * (k + 1)) := by
    rw [← l1, ← List.drop_drop, List.drop_left, zs, List.drop_replicate, l1, zs]
    congr 1
  rw [spl, l2, outP, e1, e2, outP, outN, List.append_assoc]

/-- What stands between two blocks. -/
structure Tu (w : World) (g g1 g2 gt go : Nat) (ks tw ol : List Nat) (w' : World) : Prop where
  sec : Sec w' g g1 g2 ks
  twe : Holds w' gt .u8 tw
  out : Holds w' go .u8 ol
  lt : tw.length = 16
  lo : 0 < ol.length
  bel : Below w.heap.size w w'
  hg : w.heap.size ≤ gt ∧ w.heap.size ≤ go ∧ gt ≠ go
  hs : g < w.heap.size ∧ g1 < w.heap.size ∧ g2 < w.heap.size
section
variable {w w' w'' : World} {g g1 g2 gt go : Nat} {ks tw ol : List Nat}
theorem Tu.next (h : Tu w g g1 g2 gt go ks tw ol w') (hb : Below w'.heap.size w' w'') : Tu w g g1 g2 gt go ks tw ol w'' :=
  ⟨h.sec.below hb, h.twe.below hb (h.twe.lt (by have := h.lt; omega)), h.out.below hb (h.out.lt h.lo), h.lt, h.lo, h.bel.trans (hb.mono h.bel.size), h.hg, h.hs⟩
theorem Tu.setOut (h : Tu w g g1 g2 gt go ks tw ol w') (i : Nat) (m : List Nat) (hi : i + m.length ≤ ol.length) : Tu w g g1 g2 gt go ks tw (spl ol i m) (w'.setCells go i (nv .u8 m)) := by
  have hh := h.hg
  have hs := h.hs
  have ho := HAt.spliced (Holds.at0 h.out) i m hi
  rw [Nat.zero_add] at ho
  exact ⟨h.sec.sets (by omega), h.twe.apart _ _ _ (by omega), ho, h.lt, by rw [length_spl _ _ _ hi]; exact h.lo, below_setCells (by omega) _ _ _ h.bel, h.hg, h.hs⟩
theorem Tu.setTw (h : Tu w g g1 g2 gt go ks tw ol w') (m : List Nat) (hm : m.length = 16) : Tu w g g1 g2 gt go ks m ol (w'.setCells gt 0 (nv .u8 m)) := by
  have hh := h.hg
  have hs := h.hs
  exact ⟨h.sec.sets (by omega), h.twe.put m (by rw [hm, h.lt]), h.out.apart _ _ _ (by omega), hm, h.lo, below_setCells (by omega) _ _ _ h.bel, h.hg, h.hs⟩
end

/-- A slice of bytes, and an error's number; what was there is as it was. -/
def GivesX (l : List Nat) (x : Nat) (w : World) (e : Ending) (w' : World) : Prop :=
  ∃ A c, e = .returned (.tuple #[.slice A l.length c, .int .i64 (x : Int)]) ∧ l.length ≤ c ∧ (A = none → c = 0) ∧ Bys w' w'.heap.size A l ∧ Below w.heap.size w w'
theorem givesX_none {w w' : World} (x : Nat) (h : Below w.heap.size w w') : GivesX [] x w (.returned (.tuple #[.slice none 0 0, .int .i64 (x : Int)])) w' :=
  ⟨none, 0, rfl, Nat.le_refl _, fun _ => rfl, Bys.nil _ _ _, h⟩
theorem bysOf {w : World} {g : Nat} {l : List Nat} (h : Holds w g .u8 l) (hl : ∀ x, x ∈ l → x < 256) : Bys w w.heap.size (some ⟨g, 0, none⟩) l :=
  ⟨hl, fun h0 => ⟨g, 0, rfl, h.lt h0, fun i hi => by rw [Nat.zero_add]; exact h.cell i hi⟩⟩
theorem made_zsX (s : Nat) : madeCells #[.int .u8 0] s = na .u8 (zs s) := by
  apply Array.ext_getElem?
  intro i
  by_cases hi : i < s
  · rw [na_get _ _ _ (by rw [length_zs]; exact hi), zs_get]
    simp [madeCells, hi, Nat.mod_one]
  · rw [Array.getElem?_eq_none (by rw [size_madeCells]; omega), Array.getElem?_eq_none (by rw [size_na, length_zs]; omega)]
/-- Bytes that are made. -/
theorem run_mk (n : Nat) (hn : n ≤ 1000000) (W : World) : (Instr.makeSlice 22 (.int .i64 (n : Int)) (.int .i64 (n : Int))).run Tryd.prog W = .ok (.slice (some ⟨W.heap.size, 0, none⟩) n n) (W.alloc (.cells (na .u8 (zs n)) 5)) := by
  rw [← made_zsX]
  exact run_make_row' (P := Tryd.prog) 22 5 (.int .u8 0) 1 Tryd.underlying22 info_u8 rfl .i64 .i64 n (by omega) (by omega) W
/-- What stands behind k bytes. -/
theorem run_from (b off n c k : Nat) (h1 : k < c) (h2 : k ≤ n) (W : World) :
    (Instr.slice 22 (.slice (some ⟨b, off, none⟩) n c) (some (.int .i64 (k : Int))) none none).run Tryd.prog W = .ok (.slice (some ⟨b, off + k, none⟩) (n - k) (c - k)) W := by
  have h := run_cut_l (some ⟨b, off, none⟩) n c k h2 W
  rwa [cutA, if_neg (by omega), Option.map_some, add_nat] at h
end Go.Proofs.YtdjknmnmacppdaaDoor
