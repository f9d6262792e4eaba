/-
  The law ShaParts, walked: it answers true. Conditions: the tables stand in their variables. (Written by tools/gen_shaparts.py.)
-/
import Derived.Test.YtjcpnephgbehmaaDoorShaRefPad
import Derived.Test.YtjcpnephgbehmaaDoorCutBys
import Derived.Test.YtjcpnephgbehmaaDoorSame
import Derived.Deep.Cut
namespace Go.Proofs.YtjcpnephgbehmaaDoor
open Go.RowKit Arr Sh

/-- What a law's walk ends with. -/
def True' (w : World) (e : Ending) (w' : World) : Prop := e = .returned (.bool true) ∧ Below w.heap.size w w'
theorem Parts.later {w w' : World} {A : Option Addr} {ps : List Pt} (h : Parts w w.heap.size A ps) (hb : Below w.heap.size w w') : Parts w' w'.heap.size A ps := by
  have h1 := h.below hb
  exact ⟨fun hp => by
    obtain ⟨b, off, e, hl, hc⟩ := h1.heads hp
    exact ⟨b, off, e, Nat.lt_of_lt_of_le hl hb.size, hc⟩, fun i hi => ⟨(h1.each i hi).1, (h1.each i hi).2.more hb.size⟩⟩
/-- The three parts and the empty one make the whole. -/
theorem text4 (bs : List Nat) (A1 A2 A3 : Option Addr) (c1 c2 c3 i k : Nat) (h1 : i ≤ k) :
    textOf [⟨A1, c1, (bs.drop 0).take i⟩, ⟨A2, c2, (bs.drop i).take (k - i)⟩, ⟨none, 0, []⟩, ⟨A3, c3, (bs.drop k).take (bs.length - k)⟩] = bs := by
  have e1 : (bs.drop k).take (bs.length - k) = bs.drop k := List.take_of_length_le (by simp)
  have e2 : bs.drop k = (bs.drop i).drop (k - i) := by rw [List.drop_drop]; congr 1; omega
  simp only [textOf, List.map_cons, List.map_nil, List.flatten_cons, List.flatten_nil, List.append_nil, List.nil_append, e1, List.drop_zero]
  rw [e2, List.take_append_drop, List.take_append_drop]
theorem text1 (bs : List Nat) (A : Option Addr) (c : Nat) : textOf [⟨A, c, bs⟩] = bs := by simp [textOf]

/-- What build of four parts and of one part makes. -/
theorem parts4 {w w' : World} (bs : List Nat) (A : Option Addr) (c i k : Nat) (hb : Bys w w.heap.size A bs) (hc : bs.length ≤ c) (h1 : i ≤ k) (h2 : k ≤ bs.length) (hB : Below w.heap.size w w') :
    Parts (w'.alloc (.cells #[.slice (cutA A c 0) i c, .slice (cutA A c i) (k - i) (c - i), .slice none 0 0, .slice (cutA A c k) (bs.length - k) (c - k)] 22)) (w'.alloc (.cells #[.slice (cutA A c 0) i c, .slice (cutA A c i) (k - i) (c - i), .slice none 0 0, .slice (cutA A c k) (bs.length - k) (c - k)] 22)).heap.size (some ⟨w'.heap.size, 0, none⟩)
      [⟨cutA A c 0, c, (bs.drop 0).take i⟩, ⟨cutA A c i, c - i, (bs.drop i).take (k - i)⟩, ⟨none, 0, []⟩, ⟨cutA A c k, c - k, (bs.drop k).take (bs.length - k)⟩] := by
  have hb' := (hb.below hB).more hB.size
  have l1 : ((bs.drop 0).take i).length = i := by simp; omega
  have l2 : ((bs.drop i).take (k - i)).length = k - i := by simp; omega
  have l3 : ((bs.drop k).take (bs.length - k)).length = bs.length - k := by simp
  refine Parts.new w' 22 _ (fun j hj => ?_) _ (by simp only [List.map_cons, List.map_nil, l1, l2, l3, List.length_nil])
  match j, hj with
  | 0, _ => exact ⟨by show ((bs.drop 0).take i).length ≤ c; omega, bys_cut hb' c hc 0 i (by omega) (by omega)⟩
  | 1, _ => exact ⟨by show ((bs.drop i).take (k - i)).length ≤ c - i; omega, bys_cut hb' c hc i k h1 h2⟩
  | 2, _ => exact ⟨Nat.le_refl _, Bys.nil _ _ _⟩
  | 3, _ => exact ⟨by show ((bs.drop k).take (bs.length - k)).length ≤ c - k; omega, bys_cut hb' c hc k bs.length h2 (Nat.le_refl _)⟩
theorem parts1 {w w' : World} (bs : List Nat) (A : Option Addr) (c : Nat) (hb : Bys w w.heap.size A bs) (hc : bs.length ≤ c) (hB : Below w.heap.size w w') :
    Parts (w'.alloc (.cells #[.slice A bs.length c] 22)) (w'.alloc (.cells #[.slice A bs.length c] 22)).heap.size (some ⟨w'.heap.size, 0, none⟩) [⟨A, c, bs⟩] := by
  refine Parts.new w' 22 _ (fun j hj => ?_) _ rfl
  obtain rfl : j = 0 := by simpa using hj
  exact ⟨hc, (hb.below hB).more hB.size⟩

set_option maxHeartbeats 1000000 in
theorem parts_long (A : Option Addr) (len c : Nat) (hl : 400 < len) (a0 a1 : Nat) (n : Int) (w : World) (hv : VarsS w) :
    Calls Tryd.prog 4 #[.slice A len c, .agg (na .u16 [a0, a1]), .int .i64 n] w (True' w) := by
  have e0 : na .u16 [a0, a1] = #[.int .u16 (a0 : Int), .int .u16 (a1 : Int)] := rfl
  rw [e0]
  have B1 := Lib.hid (below_alloc w (.cells #[.int .u16 (a0 : Int), .int .u16 (a1 : Int)] 29))
  have C1 := Lib.hid (awake_any _ (hv.below B1.out (Nat.le_refl _)))
  have tl : decide ((len : Int) > 400) = true := by simp; omega
  have tl2 : decide (400 < (len : Int)) = true := by simp; omega
  clear hv e0
  go_enter Tryd.func4, Tryd.ntmps4
  go_wp2_with fail
  refine C1.out.mono ?_
  rintro e w2 ⟨rfl, hB2⟩
  have B2 := Lib.hid (B1.out.trans (hB2.mono B1.out.size))
  clear hB2
  go_wp2
  go_ret
  exact ⟨rfl, B2.out⟩

set_option maxHeartbeats 4000000 in
set_option maxRecDepth 10000 in
theorem parts_main (bs : List Nat) (A : Option Addr) (c : Nat) (hc : bs.length ≤ c) (hlen : bs.length ≤ 400) (a0 a1 : Nat) (h0 : a0 < 65536) (h1 : a1 < 65536) (n : Int) (hn0 : -9223372036854775808 ≤ n) (hn1 : n ≤ 9223372036854775807) (w : World) (hv : VarsS w) (hb : Bys w w.heap.size A bs) :
    Calls Tryd.prog 4 #[.slice A bs.length c, .agg (na .u16 [a0, a1]), .int .i64 n] w (True' w) := by
  have e0 : na .u16 [a0, a1] = #[.int .u16 (a0 : Int), .int .u16 (a1 : Int)] := rfl
  rw [e0]
  have b1 := below_alloc w (.cells #[.int .u16 (a0 : Int), .int .u16 (a1 : Int)] 29)
  have x0 : (w.alloc (.cells #[.int .u16 (a0 : Int), .int .u16 (a1 : Int)] 29)).cell? ⟨w.heap.size, 0, none⟩ = some (.int .u16 (a0 : Int)) := (Holds.new w 29 .u16 [a0, a1]).cell 0 (by simp)
  have x1 : (w.alloc (.cells #[.int .u16 (a0 : Int), .int .u16 (a1 : Int)] 29)).cell? ⟨w.heap.size, 1, none⟩ = some (.int .u16 (a1 : Int)) := (Holds.new w 29 .u16 [a0, a1]).cell 1 (by simp)
  have sz : (w.alloc (.cells #[.int .u16 (a0 : Int), .int .u16 (a1 : Int)] 29)).heap.size = w.heap.size + 1 := World.size_alloc ..
  have C1 := Lib.hid (awake_any _ (hv.below b1 (Nat.le_refl _)))
  have B1 := Lib.hid b1
  have X0 := Lib.hid x0
  have X1 := Lib.hid x1
  have SZ := Lib.hid sz
  have HV := Lib.hid hv
  have HBb := Lib.hid hb
  obtain ⟨len, el⟩ : ∃ len, len = bs.length := ⟨_, rfl⟩
  rw [← el] at hc hlen ⊢
  have EL := Lib.hid el
  have tl : decide ((len : Int) > 400) = false := by simp; omega
  have tl2 : decide (400 < (len : Int)) = false := by simp; omega
  obtain ⟨i, ei⟩ : ∃ i, i = a0 % (len + 1) := ⟨_, rfl⟩
  have hi : i ≤ len := by rw [ei]; have := Nat.mod_lt a0 (show 0 < len + 1 by omega); omega
  have fi : (a0 : Int) % ((len : Int) + 1) = (i : Int) := by rw [ei]; simp
  have fi2 : Int.tmod (a0 : Int) ((len : Int) + 1) = (i : Int) := by rw [Int.tmod_eq_emod_of_nonneg (by omega)]; exact fi
  obtain ⟨j, ej⟩ : ∃ j, j = a1 % (len - i + 1) := ⟨_, rfl⟩
  have hj : i + j ≤ len := by rw [ej]; have := Nat.mod_lt a1 (show 0 < len - i + 1 by omega); omega
  have fj : (a1 : Int) % ((len : Int) - (i : Int) + 1) = (j : Int) := by
    have e : ((len : Int) - (i : Int) + 1) = ((len - i + 1 : Nat) : Int) := by omega
    rw [ej, e]; simp
  have fj2 : Int.tmod (a1 : Int) ((len : Int) - (i : Int) + 1) = (j : Int) := by rw [Int.tmod_eq_emod_of_nonneg (by omega)]; exact fj
  have z1 : ((len : Int) + 1 == 0) = false := by simp; omega
  have z2 : ((len : Int) - (i : Int) + 1 == 0) = false := by simp; omega
  have z3 : ((len : Int) + 1 = 0) = False := by simp; omega
  have z4 : ((len : Int) - (i : Int) + 1 = 0) = False := by simp; omega
  clear ei ej b1 x0 x1 sz hv hb e0 el
  go_enter Tryd.func4, Tryd.ntmps4
  go_wp2_with fail
  refine C1.out.mono ?_
  rintro e w2 ⟨rfl, hB2⟩
  have c0 : w2.cell? ⟨w.heap.size, 0, none⟩ = some (.int .u16 (a0 : Int)) := (hB2.cell (p := ⟨w.heap.size, 0, none⟩) (by rw [SZ.out]; show w.heap.size < _; omega)).trans X0.out
  have c1 : w2.cell? ⟨w.heap.size, 1, none⟩ = some (.int .u16 (a1 : Int)) := (hB2.cell (p := ⟨w.heap.size, 1, none⟩) (by rw [SZ.out]; show w.heap.size < _; omega)).trans X1.out
  have B2 := Lib.hid (B1.out.trans (hB2.mono B1.out.size))
  clear hB2 C1 X0 X1 SZ B1
  go_upto_region 7 with fail
  clear c0 c1 fi fi2 fj fj2 z1 z2 z3 z4
  obtain ⟨k, ek⟩ : ∃ k, k = i + j := ⟨_, rfl⟩
  have ek2 : (i : Int) + (j : Int) = (k : Int) := by omega
  rw [ek2]
  have hik : i ≤ k := by omega
  have hk : k ≤ len := by omega
  clear ek ek2 hj
  go_cut [48] from 33 (fun v wx => v = .bool false ∧ Below w.heap.size w wx)
  case first =>
    have r1 := run_cut_h A len c i (by omega)
    have r2 := run_cut_lh A len c i k hik (by omega)
    have r3 := run_cut_l A len c k hk
    have p4 : Go.RowKit.Hid (∀ w' : World, Below w.heap.size w w' → Parts (w'.alloc (.cells #[.slice (cutA A c 0) i c, .slice (cutA A c i) (k - i) (c - i), .slice none 0 0, .slice (cutA A c k) (len - k) (c - k)] 22)) (w'.alloc (.cells #[.slice (cutA A c 0) i c, .slice (cutA A c i) (k - i) (c - i), .slice none 0 0, .slice (cutA A c k) (len - k) (c - k)] 22)).heap.size (some ⟨w'.heap.size, 0, none⟩)
      [⟨cutA A c 0, c, (bs.drop 0).take i⟩, ⟨cutA A c i, c - i, (bs.drop i).take (k - i)⟩, ⟨none, 0, []⟩, ⟨cutA A c k, c - k, (bs.drop k).take (len - k)⟩]) := Lib.hid (fun w' hB => by
      have := EL.out
      subst this
      exact parts4 bs A c i k HBb.out hc hik hk hB)
    have p1 : Go.RowKit.Hid (∀ w' : World, Below w.heap.size w w' → Parts (w'.alloc (.cells #[.slice A len c] 22)) (w'.alloc (.cells #[.slice A len c] 22)).heap.size (some ⟨w'.heap.size, 0, none⟩) [⟨A, c, bs⟩]) := Lib.hid (fun w' hB => by
      have := EL.out
      subst this
      exact parts1 bs A c HBb.out hc hB)
    have t4 : Go.RowKit.Hid (textOf [⟨cutA A c 0, c, (bs.drop 0).take i⟩, ⟨cutA A c i, c - i, (bs.drop i).take (k - i)⟩, ⟨none, 0, []⟩, ⟨cutA A c k, c - k, (bs.drop k).take (len - k)⟩] = bs) := Lib.hid (by
      have := EL.out
      subst this
      exact text4 bs _ _ _ _ _ _ i k hik)
    have CS : Go.RowKit.Hid (∀ (ps : List Pt) (X : Option Addr) (N : Nat) (w' : World), ps.length = N → N < 10 → textOf ps = bs → Below w.heap.size w w' → Parts w' w'.heap.size X ps → Calls Tryd.prog 7 #[.slice X N N] w' (GivesB (Sh.sum bs) w')) := Lib.hid (fun ps X N w' hN hN2 hT hB hP => by
      have := Sum_any ps X N N hN (by omega) (by rw [hT, ← EL.out]; omega) w' hP (HV.out.below hB (Nat.le_refl _))
      rwa [hT] at this)
    have LS := length_sum bs
    have HEQ : Go.RowKit.Hid (∀ W : World, (Op.equalIn 10000 24 (.agg (na .u8 (Sh.sum bs))) (.agg (na .u8 (Sh.sum bs)))).run Tryd.prog W = .ok true W) := Lib.hid (fun W => by
      have := eql o32 W (Sh.sum bs) (Sh.sum bs) LS LS
      simpa using this)
    have T1 := Lib.hid (text1 bs A c)
    generalize Sh.sum bs = sm at *
    have ST : Go.RowKit.Hid (Below w.heap.size w w2.drew) := Lib.hid (below_drew B2.out)
    clear B2
    refine wp_region_held_drew (S := Below w.heap.size w) (by kernel_rfl) ST.out (fun hHeld => ?_)
    clear ST
    generalize w2.drew = wq at *
    refine wpAnyH_take (i := 0) (v := ?_) rfl (by kernel_rfl) (by kernel_rfl) (by kernel_rfl) (fun _ _ _ h => h) (Or.inl ⟨by rfl, ?_⟩) (by assumption) ?_
    rotate_left
    · (intro wz hSw; go_simp; try with_reducible rfl)
    try simp only [List.getElem_toArray, List.getElem_cons_zero, Act.put, List.setIfInBounds_toArray, List.set_cons_zero, List.set_cons_succ]
    refine wpAnyH_take (i := 1) (v := ?_) rfl (by kernel_rfl) (by kernel_rfl) (by kernel_rfl) (fun _ _ _ h => h) (Or.inl ⟨by rfl, ?_⟩) (by assumption) ?_
    rotate_left
    · (intro wz hSw; go_simp; try with_reducible rfl)
    try simp only [List.getElem_toArray, List.getElem_cons_zero, List.getElem_cons_succ, Act.put, List.setIfInBounds_toArray, List.set_cons_zero, List.set_cons_succ]
    refine wpAnyH_take (i := 2) (v := ?_) rfl (by kernel_rfl) (by kernel_rfl) (by kernel_rfl) (fun _ _ _ h => h) (Or.inl ⟨by rfl, ?_⟩) (by assumption) ?_
    rotate_left
    · (intro wz hSw; go_simp; try with_reducible rfl)
    try simp only [List.getElem_toArray, List.getElem_cons_zero, List.getElem_cons_succ, Act.put, List.setIfInBounds_toArray, List.set_cons_zero, List.set_cons_succ]
    refine wpAnyH_take (i := 3) (v := ?_) rfl (by kernel_rfl) (by kernel_rfl) (by kernel_rfl) (fun _ _ _ h => h) (Or.inl ⟨by rfl, ?_⟩) (by assumption) ?_
    rotate_left
    · (intro wz hSw; go_simp; try with_reducible rfl)
    try simp only [List.getElem_toArray, List.getElem_cons_zero, List.getElem_cons_succ, Act.put, List.setIfInBounds_toArray, List.set_cons_zero, List.set_cons_succ]
    refine wpAnyH_take (i := 4) (v := ?_) rfl (by kernel_rfl) (by kernel_rfl) (by kernel_rfl) (fun _ _ _ h => h) (Or.inl ⟨by rfl, ?_⟩) (by assumption) ?_
    rotate_left
    · (intro wz hSw; go_simp; try with_reducible rfl)
    try simp only [List.getElem_toArray, List.getElem_cons_zero, List.getElem_cons_succ, Act.put, List.setIfInBounds_toArray, List.set_cons_zero, List.set_cons_succ]
    refine wpAnyH_take (i := 5) (v := ?_) rfl (by kernel_rfl) (by kernel_rfl) (by kernel_rfl) (fun _ _ _ h => h) (Or.inl ⟨by rfl, ?_⟩) (by assumption) ?_
    rotate_left
    · (intro wz hSw; go_simp; try with_reducible rfl)
    try simp only [List.getElem_toArray, List.getElem_cons_zero, List.getElem_cons_succ, Act.put, List.setIfInBounds_toArray, List.set_cons_zero, List.set_cons_succ]
    refine wpAnyH_take (i := 6) (v := ?_) rfl (by kernel_rfl) (by kernel_rfl) (by kernel_rfl) (fun _ _ _ h => h) (Or.inl ⟨by rfl, ?_⟩) (by assumption) ?_
    rotate_left
    · (intro wz hSw; go_simp; try with_reducible rfl)
    try simp only [List.getElem_toArray, List.getElem_cons_zero, List.getElem_cons_succ, Act.put, List.setIfInBounds_toArray, List.set_cons_zero, List.set_cons_succ]
    refine wpAnyH_take (i := 7) (v := ?_) rfl (by kernel_rfl) (by kernel_rfl) (by kernel_rfl) (fun _ _ _ h => h) (Or.inl ⟨by rfl, ?_⟩) (by assumption) ?_
    rotate_left
    · (intro wz hSw; go_simp; try with_reducible rfl)
    try simp only [List.getElem_toArray, List.getElem_cons_zero, List.getElem_cons_succ, Act.put, List.setIfInBounds_toArray, List.set_cons_zero, List.set_cons_succ]
    refine wpAnyH_take (i := 8) (v := ?_) rfl (by kernel_rfl) (by kernel_rfl) (by kernel_rfl) (fun _ _ _ h => h) (Or.inl ⟨by rfl, ?_⟩) (by assumption) ?_
    rotate_left
    · (intro wz hSw; go_simp; try with_reducible rfl)
    try simp only [List.getElem_toArray, List.getElem_cons_zero, List.getElem_cons_succ, Act.put, List.setIfInBounds_toArray, List.set_cons_zero, List.set_cons_succ]
    refine wpAnyH_take (i := 9) (v := ?_) rfl (by kernel_rfl) (by kernel_rfl) (by kernel_rfl) (fun _ _ _ h => h) (Or.inl ⟨by rfl, ?_⟩) (by assumption) ?_
    rotate_left
    · (intro wz hSw; go_simp; try with_reducible rfl)
    try simp only [List.getElem_toArray, List.getElem_cons_zero, List.getElem_cons_succ, Act.put, List.setIfInBounds_toArray, List.set_cons_zero, List.set_cons_succ]
    refine wpAnyH_take (i := 12) (v := ?_) rfl (by kernel_rfl) (by kernel_rfl) (by kernel_rfl) (fun _ _ _ h => h) (Or.inl ⟨by rfl, ?_⟩) (by assumption) ?_
    rotate_left
    · (intro wz hSw; go_simp; try with_reducible rfl)
    try simp only [List.getElem_toArray, List.getElem_cons_zero, List.getElem_cons_succ, Act.put, List.setIfInBounds_toArray, List.set_cons_zero, List.set_cons_succ]
    refine wpAnyH_ready (rs := [10, 13]) (by kernel_rfl) (by simp) ?_
    refine AllReadyH.cons rfl (fun K hK => ?_) (AllReadyH.cons rfl (fun K hK => ?_) AllReadyH.nil)
    · go_simp
      refine hK.out _ _ (hHeld.alloc hHeld.size _) (fun hHeld2 => ?_)
      have P10 := p4.out _ hHeld
      have B10 := below_alloc wq (.cells #[.slice (cutA A c 0) i c, .slice (cutA A c i) (k - i) (c - i), .slice none 0 0, .slice (cutA A c k) (len - k) (c - k)] 22)
      clear hHeld hK K; have hHeld := hHeld2; clear hHeld2
      try simp only [List.getElem_toArray, List.getElem_cons_zero, List.getElem_cons_succ, Act.put, List.setIfInBounds_toArray, List.set_cons_zero, List.set_cons_succ]
      generalize wq.alloc (.cells #[.slice (cutA A c 0) i c, .slice (cutA A c i) (k - i) (c - i), .slice none 0 0, .slice (cutA A c k) (len - k) (c - k)] 22) = wa at *
      clear B10
      refine wpAnyH_ready (rs := [11, 13]) (by kernel_rfl) (by simp) ?_
      refine AllReadyH.cons rfl (fun K hK => ?_) (AllReadyH.cons rfl (fun K hK => ?_) AllReadyH.nil)
      · go_simp
        refine (CS.out _ _ 4 _ rfl (by omega) t4.out hHeld P10).mono ?_
        rintro e wb ⟨rfl, hbel⟩
        refine hK.out _ _ (hHeld.trans (hbel.mono hHeld.size)) (fun hHeld2 => ?_)
        clear hHeld hK K hbel P10; have hHeld := hHeld2; clear hHeld2
        try simp only [List.getElem_toArray, List.getElem_cons_zero, List.getElem_cons_succ, Act.put, List.setIfInBounds_toArray, List.set_cons_zero, List.set_cons_succ]
        refine wpAnyH_ready (rs := [13]) (by kernel_rfl) (by simp) ?_
        refine AllReadyH.cons rfl (fun K hK => ?_) AllReadyH.nil
        go_simp
        refine hK.out _ _ (hHeld.alloc hHeld.size _) (fun hHeld2 => ?_)
        have P13 := p1.out _ hHeld
        have B13 := below_alloc wb (.cells #[.slice A len c] 22)
        clear hHeld hK K; have hHeld := hHeld2; clear hHeld2
        try simp only [List.getElem_toArray, List.getElem_cons_zero, List.getElem_cons_succ, Act.put, List.setIfInBounds_toArray, List.set_cons_zero, List.set_cons_succ]
        generalize wb.alloc (.cells #[.slice A len c] 22) = wc at *
        clear B13
        refine wpAnyH_ready (rs := [14]) (by kernel_rfl) (by simp) ?_
        refine AllReadyH.cons rfl (fun K hK => ?_) AllReadyH.nil
        go_simp
        refine (CS.out _ _ 1 _ rfl (by omega) T1.out hHeld P13).mono ?_
        rintro e wd ⟨rfl, hbel⟩
        refine hK.out _ _ (hHeld.trans (hbel.mono hHeld.size)) (fun hHeld2 => ?_)
        clear hHeld hK K hbel P13; have hHeld := hHeld2; clear hHeld2
        try simp only [List.getElem_toArray, List.getElem_cons_zero, List.getElem_cons_succ, Act.put, List.setIfInBounds_toArray, List.set_cons_zero, List.set_cons_succ]
        refine wpAnyH_ready (rs := [15]) (by kernel_rfl) (by simp) ?_
        refine AllReadyH.cons rfl (fun K hK => ?_) AllReadyH.nil
        have heq := HEQ.out
        go_simp
        refine hK.out _ _ hHeld (fun hHeld2 => ?_)
        clear hK K hHeld2 heq
        try simp only [List.getElem_toArray, List.getElem_cons_zero, List.getElem_cons_succ, Act.put, List.setIfInBounds_toArray, List.set_cons_zero, List.set_cons_succ]
        refine wpAnyH_done (by kernel_rfl) ?_ _
        have HE := Lib.hid hHeld
        clear hHeld
        go_wp2
        go_meet
        exact ⟨rfl, HE.out⟩
      · go_simp
        refine hK.out _ _ (hHeld.alloc hHeld.size _) (fun hHeld2 => ?_)
        have P13 := p1.out _ hHeld
        have B13 := below_alloc wa (.cells #[.slice A len c] 22)
        clear hHeld hK K; have hHeld := hHeld2; clear hHeld2
        try simp only [List.getElem_toArray, List.getElem_cons_zero, List.getElem_cons_succ, Act.put, List.setIfInBounds_toArray, List.set_cons_zero, List.set_cons_succ]
        generalize wa.alloc (.cells #[.slice A len c] 22) = wc at *
        have P10 := P10.later B13
        clear B13
        refine wpAnyH_ready (rs := [11]) (by kernel_rfl) (by simp) ?_
        refine AllReadyH.cons rfl (fun K hK => ?_) AllReadyH.nil
        go_simp
        refine (CS.out _ _ 4 _ rfl (by omega) t4.out hHeld P10).mono ?_
        rintro e wb ⟨rfl, hbel⟩
        refine hK.out _ _ (hHeld.trans (hbel.mono hHeld.size)) (fun hHeld2 => ?_)
        have P13 := P13.later hbel
        clear hHeld hK K hbel P10; have hHeld := hHeld2; clear hHeld2
        try simp only [List.getElem_toArray, List.getElem_cons_zero, List.getElem_cons_succ, Act.put, List.setIfInBounds_toArray, List.set_cons_zero, List.set_cons_succ]
        refine wpAnyH_ready (rs := [14]) (by kernel_rfl) (by simp) ?_
        refine AllReadyH.cons rfl (fun K hK => ?_) AllReadyH.nil
        go_simp
        refine (CS.out _ _ 1 _ rfl (by omega) T1.out hHeld P13).mono ?_
        rintro e wd ⟨rfl, hbel⟩
        refine hK.out _ _ (hHeld.trans (hbel.mono hHeld.size)) (fun hHeld2 => ?_)
        clear hHeld hK K hbel P13; have hHeld := hHeld2; clear hHeld2
        try simp only [List.getElem_toArray, List.getElem_cons_zero, List.getElem_cons_succ, Act.put, List.setIfInBounds_toArray, List.set_cons_zero, List.set_cons_succ]
        refine wpAnyH_ready (rs := [15]) (by kernel_rfl) (by simp) ?_
        refine AllReadyH.cons rfl (fun K hK => ?_) AllReadyH.nil
        have heq := HEQ.out
        go_simp
        refine hK.out _ _ hHeld (fun hHeld2 => ?_)
        clear hK K hHeld2 heq
        try simp only [List.getElem_toArray, List.getElem_cons_zero, List.getElem_cons_succ, Act.put, List.setIfInBounds_toArray, List.set_cons_zero, List.set_cons_succ]
        refine wpAnyH_done (by kernel_rfl) ?_ _
        have HE := Lib.hid hHeld
        clear hHeld
        go_wp2
        go_meet
        exact ⟨rfl, HE.out⟩
    · go_simp
      refine hK.out _ _ (hHeld.alloc hHeld.size _) (fun hHeld2 => ?_)
      have P13 := p1.out _ hHeld
      have B13 := below_alloc wq (.cells #[.slice A len c] 22)
      clear hHeld hK K; have hHeld := hHeld2; clear hHeld2
      try simp only [List.getElem_toArray, List.getElem_cons_zero, List.getElem_cons_succ, Act.put, List.setIfInBounds_toArray, List.set_cons_zero, List.set_cons_succ]
      generalize wq.alloc (.cells #[.slice A len c] 22) = wc at *
      clear B13
      refine wpAnyH_ready (rs := [10]) (by kernel_rfl) (by simp) ?_
      refine AllReadyH.cons rfl (fun K hK => ?_) AllReadyH.nil
      go_simp
      refine hK.out _ _ (hHeld.alloc hHeld.size _) (fun hHeld2 => ?_)
      have P10 := p4.out _ hHeld
      have B10 := below_alloc wc (.cells #[.slice (cutA A c 0) i c, .slice (cutA A c i) (k - i) (c - i), .slice none 0 0, .slice (cutA A c k) (len - k) (c - k)] 22)
      clear hHeld hK K; have hHeld := hHeld2; clear hHeld2
      try simp only [List.getElem_toArray, List.getElem_cons_zero, List.getElem_cons_succ, Act.put, List.setIfInBounds_toArray, List.set_cons_zero, List.set_cons_succ]
      generalize wc.alloc (.cells #[.slice (cutA A c 0) i c, .slice (cutA A c i) (k - i) (c - i), .slice none 0 0, .slice (cutA A c k) (len - k) (c - k)] 22) = wa at *
      have P13 := P13.later B10
      clear B10
      refine wpAnyH_ready (rs := [11]) (by kernel_rfl) (by simp) ?_
      refine AllReadyH.cons rfl (fun K hK => ?_) AllReadyH.nil
      go_simp
      refine (CS.out _ _ 4 _ rfl (by omega) t4.out hHeld P10).mono ?_
      rintro e wb ⟨rfl, hbel⟩
      refine hK.out _ _ (hHeld.trans (hbel.mono hHeld.size)) (fun hHeld2 => ?_)
      have P13 := P13.later hbel
      clear hHeld hK K hbel P10; have hHeld := hHeld2; clear hHeld2
      try simp only [List.getElem_toArray, List.getElem_cons_zero, List.getElem_cons_succ, Act.put, List.setIfInBounds_toArray, List.set_cons_zero, List.set_cons_succ]
      refine wpAnyH_ready (rs := [14]) (by kernel_rfl) (by simp) ?_
      refine AllReadyH.cons rfl (fun K hK => ?_) AllReadyH.nil
      go_simp
      refine (CS.out _ _ 1 _ rfl (by omega) T1.out hHeld P13).mono ?_
      rintro e wd ⟨rfl, hbel⟩
      refine hK.out _ _ (hHeld.trans (hbel.mono hHeld.size)) (fun hHeld2 => ?_)
      clear hHeld hK K hbel P13; have hHeld := hHeld2; clear hHeld2
      try simp only [List.getElem_toArray, List.getElem_cons_zero, List.getElem_cons_succ, Act.put, List.setIfInBounds_toArray, List.set_cons_zero, List.set_cons_succ]
      refine wpAnyH_ready (rs := [15]) (by kernel_rfl) (by simp) ?_
      refine AllReadyH.cons rfl (fun K hK => ?_) AllReadyH.nil
      have heq := HEQ.out
      go_simp
      refine hK.out _ _ hHeld (fun hHeld2 => ?_)
      clear hK K hHeld2 heq
      try simp only [List.getElem_toArray, List.getElem_cons_zero, List.getElem_cons_succ, Act.put, List.setIfInBounds_toArray, List.set_cons_zero, List.set_cons_succ]
      refine wpAnyH_done (by kernel_rfl) ?_ _
      have HE := Lib.hid hHeld
      clear hHeld
      go_wp2
      go_meet
      exact ⟨rfl, HE.out⟩
  case rest =>
    clear B2
    obtain ⟨rfl, hB⟩ := hcut
    have B3 := Lib.hid hB
    clear hB
    by_cases hn : n < 0 ∨ 1099511627776 < n
    · have C1 := Lib.hid (fun w' => pad_none n hn w')
      rcases Int.lt_or_le n 0 with h | h
      · have t0 : decide (n < 0) = true := by simp [h]
        clear hn
        go_wp2_with fail
        refine (C1.out _).mono ?_
        rintro e w4 ⟨rfl, rfl⟩
        go_wp2
        go_ret
        exact ⟨rfl, B3.out⟩
      · have t0 : decide (n < 0) = false := by simp; omega
        have t1 : decide (n > 1099511627776) = true := by simp; omega
        have t2 : decide (1099511627776 < n) = true := by simp; omega
        clear hn
        go_wp2_with fail
        refine (C1.out _).mono ?_
        rintro e w4 ⟨rfl, rfl⟩
        go_wp2
        go_ret
        exact ⟨rfl, B3.out⟩
    · obtain ⟨m, rfl⟩ : ∃ m : Nat, n = (m : Int) := ⟨n.toNat, by omega⟩
      have hm : m ≤ 1099511627776 := by omega
      have t0 : decide ((m : Int) < 0) = false := by simp
      have t1 : decide ((m : Int) > 1099511627776) = false := by simp; omega
      have t2 : decide (1099511627776 < (m : Int)) = false := by simp; omega
      have C1 := Lib.hid (pad_some m hm wc (HV.out.below B3.out (Nat.le_refl _)).vars.tab)
      have C2 := Lib.hid (fun w' => rpad_any m hm w')
      have LP := length_pad m
      have PB := Lib.hid (pad_byte m)
      have SG := size_ge m
      have SM := Lib.hid (size_mod m)
      clear hn
      go_wp2_with fail
      refine C1.out.mono ?_
      rintro e w4 ⟨h, rfl, hP, hh, hB4⟩
      have hP4 := Lib.hid hP
      have B4 := Lib.hid (B3.out.trans (hB4.mono B3.out.size))
      have hhs := hP.lt (by omega)
      clear hP hB4 C1
      go_wp2_with fail
      refine (C2.out _).mono ?_
      rintro e w5 ⟨A5, c5, rfl, hb5, hB5⟩
      have C3 := same_any (some ⟨h, 0, none⟩) A5 (pad m) (pad m) (size m) (pad m).length (size m) c5 w5 LP rfl (by omega) _ _ (bys_of_hat (hP4.out.below hB5 hhs) PB.out (Nat.lt_of_lt_of_le hhs hB5.size)) hb5
      rw [decide_eq_true (rfl : pad m = pad m)] at C3
      have C4 := Lib.hid C3
      have B5 := Lib.hid (B4.out.trans (hB5.mono B4.out.size))
      clear C3 hb5 hB5 C2
      rw [LP] at C4 ⊢
      generalize size m = s at *
      have em : ((m : Int) + (s : Int)) % 64 = 0 := by have := SM.out; omega
      have tz : (((m : Int) + (s : Int)) % 64 == 0) = true := by rw [em]; rfl
      have tq : decide ((s : Int) ≤ 72) = true := by simp; omega
      go_wp2_with fail
      refine C4.out.mono ?_
      rintro e w6 ⟨nn, rfl, rfl⟩
      go_wp2
      go_ret
      exact ⟨rfl, below_drewN B5.out nn⟩
theorem o2 : Of Tryd.prog 29 28 2 .u16 := ⟨Tryd.underlying29, by kernel_rfl, Tryd.underlying28, by kernel_rfl⟩
/-- SHAPARTS: it answers true. -/
theorem parts_walk (bs : List Nat) (A : Option Addr) (c : Nat) (l : List Nat) (n : Int) (w : World) (hv : VarsS w) (hb : Bys w w.heap.size A bs) (hc : bs.length ≤ c) (_ : A = none → c = 0) (hl : l.length = 2) (hlt : ∀ i, l.getD i 0 < 65536) (hn : (Lit.int .i64 n).wf = true) :
    Calls Tryd.prog 4 #[.slice A bs.length c, .agg (na .u16 l), .int .i64 n] w fun e w' => e = .returned (.bool true) ∧ Below w.heap.size w w' := by
  obtain ⟨a0, a1, rfl⟩ : ∃ a0 a1, l = [a0, a1] := by
    match l, hl with
    | [a, b], _ => exact ⟨a, b, rfl⟩
  have h0 := hlt 0
  have h1 := hlt 1
  have hr : -9223372036854775808 ≤ n ∧ n ≤ 9223372036854775807 := by simp [Lit.wf, IntKind.min, IntKind.max, IntKind.signed, IntKind.bits] at hn; omega
  by_cases hlong : 400 < bs.length
  · exact parts_long A bs.length c hlong a0 a1 n w hv
  · exact parts_main bs A c hc (by omega) a0 a1 (by simpa using h0) (by simpa using h1) n hr.1 hr.2 w hv hb
end Go.Proofs.YtjcpnephgbehmaaDoor
