/-
  The walk of the law GfApart. No conditions.
-/
import Derived.Test.YtaibegafoncddaaApartRegion
import Derived.Deep.RegionHeld3
namespace Go.Proofs.Ytaibegafoncddaa
open Go.RowKit Gf
set_option linter.unusedSimpArgs false

/-- What the last statement reads. -/
@[reducible] def S11 (a b sm M da db : List Nat) (h gx gy : Nat) (w w' : World) : Prop :=
  w'.rangeAt h 0 (bv a) ∧ w'.rangeAt (h + 1) 0 (bv b) ∧ w'.rangeAt (h + 1 + 1) 0 (bv sm) ∧ w'.rangeAt (h + 1 + 1 + 1) 0 (bv M) ∧ w'.rangeAt gx 0 (bv da) ∧ w'.rangeAt gy 0 (bv db) ∧ Below h w w'
theorem range_lt {w : World} {g : Nat} {l : List Nat} (hl : l.length = 16) (h : w.rangeAt g 0 (bv l)) : g < w.heap.size :=
  block_lt_of_cell (a := ⟨g, 0 + 0, none⟩) (h 0 _ (bv_get l 0 (by omega)))
theorem range_below {w1 w2 : World} {g : Nat} {l : List Nat} (hl : l.length = 16) (h : w1.rangeAt g 0 (bv l)) (hb : Below w1.heap.size w1 w2) : w2.rangeAt g 0 (bv l) :=
  fun j v hv => (hb.cell (p := ⟨g, 0 + j, none⟩) (range_lt hl h)).trans (h j v hv)
theorem S11.keep {a b sm M da db : List Nat} {h gx gy : Nat} {w w1 w2 : World} (s : S11 a b sm M da db h gx gy w w1) (hb : Below w1.heap.size w1 w2)
    (l1 : a.length = 16) (l2 : b.length = 16) (l3 : sm.length = 16) (l4 : M.length = 16) (l5 : da.length = 16) (l6 : db.length = 16) : S11 a b sm M da db h gx gy w w2 :=
  ⟨range_below l1 s.1 hb, range_below l2 s.2.1 hb, range_below l3 s.2.2.1 hb, range_below l4 s.2.2.2.1 hb, range_below l5 s.2.2.2.2.1 hb, range_below l6 s.2.2.2.2.2.1 hb,
    s.2.2.2.2.2.2.trans (hb.mono (Nat.le_of_lt (range_lt l1 s.1)))⟩

set_option maxHeartbeats 4000000 in
set_option maxRecDepth 20000 in
theorem apart_any (a b : List Nat) (ha : a.length = 16) (hb : b.length = 16) (ba : Bytes a) (bb : Bytes b) (w : World) :
    Calls Try.prog 6 #[.agg (blk a), .agg (blk b)] w fun e w' => e = .returned (.bool true) ∧ Below w.heap.size w w' := by
  have C0 := Lib.hid (awake_any ((w.alloc (.cells (blk a) 29)).alloc (.cells (blk b) 29)))
  have Z := Lib.hid blk_zeros
  have s0 : St4 a b w.heap.size w (fun _ => false) ((((w.alloc (.cells (blk a) 29)).alloc (.cells (blk b) 29)).alloc (.cells (blk zeros) 29)).alloc (.cells (blk zeros) 29)).drew undef undef undef undef undef undef :=
    { hA := ((((Blk.new w a ha).alloc _).alloc _).alloc _).drew
      hB := ((by simpa using (Blk.new (w.alloc (.cells (blk a) 29)) b hb) : Blk _ (w.heap.size + 1) b).alloc _).alloc _ |>.drew
      hS := (by simpa using (Blk.new ((w.alloc (.cells (blk a) 29)).alloc (.cells (blk b) 29)) zeros rfl) : Blk _ (w.heap.size + 1 + 1) zeros).alloc _ |>.drew
      hT := (by simpa using (Blk.new (((w.alloc (.cells (blk a) 29)).alloc (.cells (blk b) 29)).alloc (.cells (blk zeros) 29)) zeros rfl) : Blk _ (w.heap.size + 1 + 1 + 1) zeros).drew
      bel := ((((Below.refl w.heap.size w).alloc (Nat.le_refl _) _).alloc (by simp) _).alloc (by simp; omega) _).alloc (by simp; omega) _ |>.drew
      l0 := nofun, l1 := nofun, l2 := nofun, l3 := nofun
      l4 := nofun, l5 := nofun, l45 := nofun }
  rw [blk_zeros] at s0
  have S0 := Lib.hid s0; clear s0
  go_enter Try.func6, Try.ntmps6
  go_wp2_with fail
  refine C0.out.mono ?_
  rintro e w' ⟨rfl, rfl⟩
  go_wp2
  refine wp_region_inv_closed (by kernel_rfl) (by kernel_rfl) (In4 a b w.heap.size w) ⟨_, _, _, _, _, _, rfl, S0.out⟩ ?step ?fin
  case step =>
    clear S0 C0
    rintro D x w1 ⟨v7, v8, v12, v13, v14, v15, rfl, s⟩ hcl i o ho hd hdep
    rcases i with _ | _ | _ | _ | _ | _ | _ | _ | i
    all_goals simp only [List.getElem?_toArray, List.getElem?_cons_succ, List.getElem?_cons_zero, Option.some.injEq] at ho
    · subst ho
      refine wpOp_of rfl rfl (wp_load_mid _ _ rfl w.heap.size 0 rfl (bv a) _ s.hA.2.1 Try.underlying29 rfl (info_blk' a ha) ?_)
      exact ⟨_, _, _, _, _, _, rfl, s.did0⟩
    · subst ho
      obtain rfl := s.l0 (hdep ⟨0, .data⟩ (by simp) rfl)
      refine wpOp_of rfl rfl ?_
      go_simp
      refine (double_any a ha ba _).mono ?_
      rintro e w2 ⟨rfl, hbel⟩
      exact ⟨_, _, _, _, _, _, rfl, (s.carry hbel).did1⟩
    · subst ho
      refine wpOp_of rfl rfl (wp_load_mid _ _ rfl (w.heap.size + 1) 0 rfl (bv b) _ s.hB.2.1 Try.underlying29 rfl (info_blk' b hb) ?_)
      exact ⟨_, _, _, _, _, _, rfl, s.did2⟩
    · subst ho
      obtain rfl := s.l2 (hdep ⟨2, .data⟩ (by simp) rfl)
      refine wpOp_of rfl rfl ?_
      go_simp
      refine (double_any b hb bb _).mono ?_
      rintro e w2 ⟨rfl, hbel⟩
      exact ⟨_, _, _, _, _, _, rfl, (s.carry hbel).did3⟩
    · subst ho
      have h6 : D 6 = false := hcl.no (i := 6) rfl (e := ⟨4, .data⟩) (by simp) rfl hd
      have h7 : D 7 = false := hcl.no (i := 7) rfl (e := ⟨4, .phase⟩) (by simp) rfl hd
      refine wpOp_of rfl rfl ?_
      go_simp
      exact ⟨_, _, _, _, _, _, rfl, s.did4 h6 h7⟩
    · subst ho
      have h6 : D 6 = false := hcl.no (i := 6) rfl (e := ⟨5, .phase⟩) (by simp) rfl hd
      have h7 : D 7 = false := hcl.no (i := 7) rfl (e := ⟨5, .data⟩) (by simp) rfl hd
      refine wpOp_of rfl rfl ?_
      go_simp
      exact ⟨_, _, _, _, _, _, rfl, s.did5 h6 h7⟩
    · subst ho
      have d4 := hdep ⟨4, .data⟩ (by simp) rfl
      obtain rfl := s.l1 (hdep ⟨1, .data⟩ (by simp) rfl)
      obtain ⟨g, rfl, hg, hk⟩ := s.l4 d4
      refine wpOp_of rfl rfl (wp_store_mid _ _ _ rfl g 0 (blk (dbl a)) rfl rfl (by rw [size_blk, length_dbl a ha]; exact hk.2.2) (by rw [size_blk, length_dbl a ha]; exact info_blk) (all_oneCell_toArray (bv_one (dbl a))) ?_)
      exact ⟨_, _, _, _, _, _, rfl, s.did6 d4 (hdep ⟨5, .phase⟩ (by simp) rfl) g rfl ha⟩
    · subst ho
      have d5 := hdep ⟨5, .data⟩ (by simp) rfl
      obtain rfl := s.l3 (hdep ⟨3, .data⟩ (by simp) rfl)
      obtain ⟨g, rfl, hg, hk⟩ := s.l5 d5
      refine wpOp_of rfl rfl (wp_store_mid _ _ _ rfl g 0 (blk (dbl b)) rfl rfl (by rw [size_blk, length_dbl b hb]; exact hk.2.2) (by rw [size_blk, length_dbl b hb]; exact info_blk) (all_oneCell_toArray (bv_one (dbl b))) ?_)
      exact ⟨_, _, _, _, _, _, rfl, s.did7 (hdep ⟨4, .phase⟩ (by simp) rfl) d5 g rfl hb⟩
    · simp at ho
  case fin =>
    clear S0 C0 Z
    rintro D x w1 ⟨v7, v8, v12, v13, v14, v15, rfl, s⟩ hall
    obtain ⟨gx, rfl, hgx, hx⟩ := s.l4 (hall 4 (by simp))
    obtain ⟨gy, rfl, hgy, hy⟩ := s.l5 (hall 5 (by simp))
    obtain rfl := s.l0 (hall 0 (by simp))
    obtain rfl := s.l1 (hall 1 (by simp))
    obtain rfl := s.l2 (hall 2 (by simp))
    obtain rfl := s.l3 (hall 3 (by simp))
    have hne : gx ≠ gy := fun e => s.l45 (hall 4 (by simp)) (hall 5 (by simp)) (by rw [e])
    rw [if_pos (hall 6 (by simp))] at hx
    rw [if_pos (hall 7 (by simp))] at hy
    have HA := Lib.hid s.hA
    have HB := Lib.hid s.hB
    have HS := Lib.hid s.hS
    have HT := Lib.hid s.hT
    have HL := Lib.hid s.bel
    have HX := Lib.hid hx
    have HY := Lib.hid hy
    clear s hx hy hall
    show Exit.then _ _ _ _ _
    go_wp2
    go_loopw [9, 16] (fun _ c wr => ∃ k : Nat, k ≤ 16 ∧ c = .int .i64 (k : Nat) ∧ Blk wr w.heap.size a ∧ Blk wr (w.heap.size + 1) b ∧ Blk wr (w.heap.size + 1 + 1) (xs a b k) ∧ Blk wr (w.heap.size + 1 + 1 + 1) (xs (dbl a) (dbl b) k) ∧ Blk wr gx (dbl a) ∧ Blk wr gy (dbl b) ∧ Below w.heap.size w wr) (fun _ c _ => 16 - (intOf c).toNat)
    case atStart => exact ⟨0, by omega, rfl, HA.out, HB.out, HS.out, HT.out, HX.out, HY.out, HL.out⟩
    case round =>
      clear HA HB HS HT HX HY HL
      obtain ⟨k, hk, rfl, hA, hB, hS, hT, hX, hY, hL⟩ := hrel
      by_cases hlt : k < 16
      · have k0 : (0 : Int) ≤ (k : Int) := by omega
        have k1 : (k : Int) < 16 := by omega
        have c1 := hA.cell k hlt
        have c2 := hB.cell k hlt
        have c3 := hX.cell k hlt
        have c4 := hY.cell k hlt
        have c5 := hS.cell k hlt
        have f5 := hS.frozen k hlt
        have c6 := hT.cell k hlt
        have f6 := hT.frozen k hlt
        have x1 := u8_xor_nat _ _ (ba k) (bb k)
        have x2 := u8_xor_nat _ _ (dbl_bytes a ha ba k) (dbl_bytes b hb bb k)
        have HA := Lib.hid hA
        have HB := Lib.hid hB
        have HS := Lib.hid hS
        have HT := Lib.hid hT
        have HL := Lib.hid hL
        have HX := Lib.hid hX
        have HY := Lib.hid hY
        have N1 := Lib.hid (show xs a b (k + 1) = (xs a b k).set k (a.getD k 0 ^^^ b.getD k 0) from rfl)
        have N2 := Lib.hid (show xs (dbl a) (dbl b) (k + 1) = (xs (dbl a) (dbl b) k).set k ((dbl a).getD k 0 ^^^ (dbl b).getD k 0) from rfl)
        clear hA hB hS hT hL hX hY
        generalize a.getD k 0 ^^^ b.getD k 0 = p at *
        generalize (dbl a).getD k 0 ^^^ (dbl b).getD k 0 = q at *
        generalize a.getD k 0 = a1 at *
        generalize b.getD k 0 = b1 at *
        generalize (dbl a).getD k 0 = a2 at *
        generalize (dbl b).getD k 0 = b2 at *
        generalize (xs a b k).getD k 0 = o1 at *
        generalize (xs (dbl a) (dbl b) k).getD k 0 = o2 at *
        go_wp2
        have MA := Lib.hid (HA.out.beside ⟨w.heap.size + 1 + 1, k, none⟩ (.int .u8 (p : Int)) (by dsimp only; omega)).drew
        have MB := Lib.hid (HB.out.beside ⟨w.heap.size + 1 + 1, k, none⟩ (.int .u8 (p : Int)) (by dsimp only; omega)).drew
        have MS := Lib.hid (HS.out.set k p hlt).drew
        have MT := Lib.hid (HT.out.beside ⟨w.heap.size + 1 + 1, k, none⟩ (.int .u8 (p : Int)) (by dsimp only; omega)).drew
        have MX := Lib.hid (HX.out.beside ⟨w.heap.size + 1 + 1, k, none⟩ (.int .u8 (p : Int)) (by dsimp only; omega)).drew
        have MY := Lib.hid (HY.out.beside ⟨w.heap.size + 1 + 1, k, none⟩ (.int .u8 (p : Int)) (by dsimp only; omega)).drew
        have ML := Lib.hid (HL.out.setCell (p := ⟨w.heap.size + 1 + 1, k, none⟩) (by dsimp only; omega) (.int .u8 (p : Int))).drew
        rw [← N1.out] at MS
        have g1 : (wr.setCell ⟨w.heap.size + 1 + 1, k, none⟩ (.int .u8 (p : Int))).drew.cell? ⟨w.heap.size, k, none⟩ = some (.int .u8 (a1 : Int)) := (World.cell?_setCell_other _ _ _ _ (addr_ne (by omega))).trans c1
        have g2 : (wr.setCell ⟨w.heap.size + 1 + 1, k, none⟩ (.int .u8 (p : Int))).drew.cell? ⟨w.heap.size + 1, k, none⟩ = some (.int .u8 (b1 : Int)) := (World.cell?_setCell_other _ _ _ _ (addr_ne (by omega))).trans c2
        have d3 : (wr.setCell ⟨w.heap.size + 1 + 1, k, none⟩ (.int .u8 (p : Int))).drew.cell? ⟨gx, k, none⟩ = some (.int .u8 (a2 : Int)) := (World.cell?_setCell_other _ _ _ _ (addr_ne (by omega))).trans c3
        have d4 : (wr.setCell ⟨w.heap.size + 1 + 1, k, none⟩ (.int .u8 (p : Int))).drew.cell? ⟨gy, k, none⟩ = some (.int .u8 (b2 : Int)) := (World.cell?_setCell_other _ _ _ _ (addr_ne (by omega))).trans c4
        have d6 : (wr.setCell ⟨w.heap.size + 1 + 1, k, none⟩ (.int .u8 (p : Int))).drew.cell? ⟨w.heap.size + 1 + 1 + 1, k, none⟩ = some (.int .u8 (o2 : Int)) := (World.cell?_setCell_other _ _ _ _ (addr_ne (by omega))).trans c6
        have e6 : (wr.setCell ⟨w.heap.size + 1 + 1, k, none⟩ (.int .u8 (p : Int))).drew.frozen? ⟨w.heap.size + 1 + 1 + 1, k, none⟩ = false := by simpa using f6
        have G1 := Lib.hid g1; have G2 := Lib.hid g2; have D3 := Lib.hid d3; have D4 := Lib.hid d4; have D6 := Lib.hid d6; have E6 := Lib.hid e6
        clear g1 g2 d3 d4 d6 e6
        go_region_held3 (fun w' => w'.cell? ⟨w.heap.size, k, none⟩ = some (.int .u8 (a1 : Int)) ∧ w'.cell? ⟨w.heap.size + 1, k, none⟩ = some (.int .u8 (b1 : Int))) (first | exact ⟨c1, c2⟩ | exact ⟨G1.out, G2.out⟩) (fail)
        generalize (wr.setCell ⟨w.heap.size + 1 + 1, k, none⟩ (.int .u8 (p : Int))).drew = w2 at *
        have NA := Lib.hid (MA.out.beside ⟨w.heap.size + 1 + 1 + 1, k, none⟩ (.int .u8 (q : Int)) (by dsimp only; omega)).drew
        have NB := Lib.hid (MB.out.beside ⟨w.heap.size + 1 + 1 + 1, k, none⟩ (.int .u8 (q : Int)) (by dsimp only; omega)).drew
        have NS := Lib.hid (MS.out.beside ⟨w.heap.size + 1 + 1 + 1, k, none⟩ (.int .u8 (q : Int)) (by dsimp only; omega)).drew
        have NT := Lib.hid (MT.out.set k q hlt).drew
        have NX := Lib.hid (MX.out.beside ⟨w.heap.size + 1 + 1 + 1, k, none⟩ (.int .u8 (q : Int)) (by dsimp only; omega)).drew
        have NY := Lib.hid (MY.out.beside ⟨w.heap.size + 1 + 1 + 1, k, none⟩ (.int .u8 (q : Int)) (by dsimp only; omega)).drew
        have NL := Lib.hid (ML.out.setCell (p := ⟨w.heap.size + 1 + 1 + 1, k, none⟩) (by dsimp only; omega) (.int .u8 (q : Int))).drew
        rw [← N2.out] at NT
        have g3 : (w2.setCell ⟨w.heap.size + 1 + 1 + 1, k, none⟩ (.int .u8 (q : Int))).drew.cell? ⟨gx, k, none⟩ = some (.int .u8 (a2 : Int)) := (World.cell?_setCell_other _ _ _ _ (addr_ne (by omega))).trans D3.out
        have g4 : (w2.setCell ⟨w.heap.size + 1 + 1 + 1, k, none⟩ (.int .u8 (q : Int))).drew.cell? ⟨gy, k, none⟩ = some (.int .u8 (b2 : Int)) := (World.cell?_setCell_other _ _ _ _ (addr_ne (by omega))).trans D4.out
        have G3 := Lib.hid g3; have G4 := Lib.hid g4
        have d3 := D3.out; have d4 := D4.out; have d6 := D6.out; have e6 := E6.out
        clear g3 g4 c1 c2 c3 c4 c5 c6 f5 f6 G1 G2 D3 D4 D6 E6 HA HB HS HT HL HX HY MA MB MS MT ML MX MY
        show Exit.then _ _ _ _ _
        go_wp2
        go_region_held3 (fun w' => w'.cell? ⟨gx, k, none⟩ = some (.int .u8 (a2 : Int)) ∧ w'.cell? ⟨gy, k, none⟩ = some (.int .u8 (b2 : Int))) (first | exact ⟨d3, d4⟩ | exact ⟨G3.out, G4.out⟩) (fail)
        generalize (w2.setCell ⟨w.heap.size + 1 + 1 + 1, k, none⟩ (.int .u8 (q : Int))).drew = w3 at *
        clear d3 d4 d6 e6 G3 G4
        go_wp2
        go_roundw
        case rel => exact ⟨k + 1, by omega, by go_num, NA.out, NB.out, NS.out, NT.out, NX.out, NY.out, NL.out⟩
        case measure => simp [intOf]; omega
      · obtain rfl : k = 16 := by omega
        have start : S11 a b (xs a b 16) (xs (dbl a) (dbl b) 16) (dbl a) (dbl b) w.heap.size gx gy w wr.drew :=
          ⟨hA.drew.2.1, hB.drew.2.1, hS.drew.2.1, hT.drew.2.1, hX.drew.2.1, hY.drew.2.1, hL.drew⟩
        have K1 := fun wx => double_any (xs a b 16) (length_xs a b 16) (xs_bytes a b ba bb) wx
        have lM := length_xs (dbl a) (dbl b) 16
        have ls := length_xs a b 16
        have la := length_dbl a ha
        have lb := length_dbl b hb
        have K3 := fun wx => double_any (dbl a) la (dbl_bytes a ha ba) wx
        have ld := length_dbl _ la
        have K2 := fun wx => doubled_in a ha ba 2 (by omega) wx
        have K4 := fun wx => doubled_in a ha ba 0 (by omega) wx
        have K5 := fun wx => doubled_out a ha (-1) (by omega) wx
        rw [dbl_xor a b ha hb ba bb] at K1
        have q1 := fun wx => eql_blk wx (xs (dbl a) (dbl b) 16) (xs (dbl a) (dbl b) 16) lM lM
        have q2 := fun wx => eql_blk wx a b ha hb
        have q3 := fun wx => eql_blk wx (dbl a) (dbl b) la lb
        have q4 := fun wx => eql_blk wx (dbl (dbl a)) (dbl (dbl a)) ld ld
        have q5 := fun wx => eql_blk wx a a ha ha
        rw [← dbl_eq_iff a b ha hb ba bb] at q3
        simp only [decide_true] at q1 q4 q5
        generalize decide (a = b) = c at *
        change ∀ wx, Calls _ _ _ _ (Gives (dbl (dbl a)) wx) at K2
        change ∀ wx, Calls _ _ _ _ (Gives a wx) at K4
        clear hA hB hS hT hX hY hL
        generalize dbl (dbl a) = d2 at *
        generalize dbl a = da at *
        generalize dbl b = db at *
        generalize xs da db 16 = M at *
        generalize xs a b 16 = sm at *
        have K1 := Lib.hid K1
        have K2 := Lib.hid K2
        have K3 := Lib.hid K3
        have K4 := Lib.hid K4
        have K5 := Lib.hid K5
        have ST := Lib.hid start
        clear start
        have hu := Try.underlying29
        have i1 := info_blk' a ha
        have i2 := info_blk' b hb
        have i3 := info_blk' sm ls
        have i4 := info_blk' M lM
        have i5 := info_blk' da la
        have i6 := info_blk' db lb
        go_wp2
        refine wp_region_held_drew (S := S11 a b sm M da db w.heap.size gx gy w) (by kernel_rfl) ST.out (fun hHeld => ?_)
        refine' wpAnyH_take (i := 0) (v := _) rfl (by kernel_rfl) (by kernel_rfl) (by kernel_rfl) (fun _ _ _ h => h) (yieldsIf_load_mid (by rfl) _ _ rfl _ _ rfl _ _ (fun _ hs => hs.2.2.1) hu rfl i3) (by assumption) ?_
        try simp only [List.getElem_toArray, List.getElem_cons_zero, List.getElem_cons_succ, Act.put, List.setIfInBounds_toArray, List.set_cons_zero, List.set_cons_succ]
        refine' wpAnyH_take (i := 2) (v := _) rfl (by kernel_rfl) (by kernel_rfl) (by kernel_rfl) (fun _ _ _ h => h) (yieldsIf_load_mid (by rfl) _ _ rfl _ _ rfl _ _ (fun _ hs => hs.2.2.2.1) hu rfl i4) (by assumption) ?_
        try simp only [List.getElem_toArray, List.getElem_cons_zero, List.getElem_cons_succ, Act.put, List.setIfInBounds_toArray, List.set_cons_zero, List.set_cons_succ]
        refine wpAnyH_ready (rs := [1]) (by kernel_rfl) (by simp) (AllReadyH.cons rfl (fun K hK => ?_) AllReadyH.nil)
        go_simp
        refine (K1.out _).mono ?_
        rintro e w5 ⟨rfl, hbel⟩
        refine hK.out _ _ (S11.keep hHeld hbel ha hb ls lM la lb) (fun hHeld2 => ?_)
        clear hHeld hK K hbel; have hHeld := hHeld2; clear hHeld2
        try simp only [List.getElem_toArray, List.getElem_cons_zero, List.getElem_cons_succ, Act.put, List.setIfInBounds_toArray, List.set_cons_zero, List.set_cons_succ]
        refine wpAnyH_take (i := 3) (v := ?_) rfl (by kernel_rfl) (by kernel_rfl) (by kernel_rfl) (fun _ _ _ h => h) (Or.inl ⟨by rfl, ?_⟩) (by assumption) ?_
        rotate_left
        · (intro wz hSw; go_simp; try with_reducible rfl)
        try simp only [List.getElem_toArray, List.getElem_cons_zero, List.getElem_cons_succ, Act.put, List.setIfInBounds_toArray, List.set_cons_zero, List.set_cons_succ]
        refine wpAnyH_take (i := 4) (v := ?_) rfl (by kernel_rfl) (by kernel_rfl) (by kernel_rfl) (fun _ _ _ h => h) (Or.inl ⟨by rfl, ?_⟩) (by assumption) ?_
        rotate_left
        · (intro wz hSw; go_simp; try with_reducible rfl)
        try simp only [List.getElem_toArray, List.getElem_cons_zero, List.getElem_cons_succ, Act.put, List.setIfInBounds_toArray, List.set_cons_zero, List.set_cons_succ]
        refine' wpAnyH_take (i := 5) (v := _) rfl (by kernel_rfl) (by kernel_rfl) (by kernel_rfl) (fun _ _ _ h => h) (yieldsIf_load_mid (by rfl) _ _ rfl _ _ rfl _ _ (fun _ hs => hs.1) hu rfl i1) (by assumption) ?_
        try simp only [List.getElem_toArray, List.getElem_cons_zero, List.getElem_cons_succ, Act.put, List.setIfInBounds_toArray, List.set_cons_zero, List.set_cons_succ]
        refine' wpAnyH_take (i := 6) (v := _) rfl (by kernel_rfl) (by kernel_rfl) (by kernel_rfl) (fun _ _ _ h => h) (yieldsIf_load_mid (by rfl) _ _ rfl _ _ rfl _ _ (fun _ hs => hs.2.1) hu rfl i2) (by assumption) ?_
        try simp only [List.getElem_toArray, List.getElem_cons_zero, List.getElem_cons_succ, Act.put, List.setIfInBounds_toArray, List.set_cons_zero, List.set_cons_succ]
        refine wpAnyH_take (i := 7) (v := ?_) rfl (by kernel_rfl) (by kernel_rfl) (by kernel_rfl) (fun _ _ _ h => h) (Or.inl ⟨by rfl, ?_⟩) (by assumption) ?_
        rotate_left
        · (intro wz hSw; go_simp; try with_reducible rfl)
        try simp only [List.getElem_toArray, List.getElem_cons_zero, List.getElem_cons_succ, Act.put, List.setIfInBounds_toArray, List.set_cons_zero, List.set_cons_succ]
        refine' wpAnyH_take (i := 8) (v := _) rfl (by kernel_rfl) (by kernel_rfl) (by kernel_rfl) (fun _ _ _ h => h) (yieldsIf_load_mid (by rfl) _ _ rfl _ _ rfl _ _ (fun _ hs => hs.2.2.2.2.1) hu rfl i5) (by assumption) ?_
        try simp only [List.getElem_toArray, List.getElem_cons_zero, List.getElem_cons_succ, Act.put, List.setIfInBounds_toArray, List.set_cons_zero, List.set_cons_succ]
        refine' wpAnyH_take (i := 9) (v := _) rfl (by kernel_rfl) (by kernel_rfl) (by kernel_rfl) (fun _ _ _ h => h) (yieldsIf_load_mid (by rfl) _ _ rfl _ _ rfl _ _ (fun _ hs => hs.2.2.2.2.2.1) hu rfl i6) (by assumption) ?_
        try simp only [List.getElem_toArray, List.getElem_cons_zero, List.getElem_cons_succ, Act.put, List.setIfInBounds_toArray, List.set_cons_zero, List.set_cons_succ]
        refine wpAnyH_take (i := 10) (v := ?_) rfl (by kernel_rfl) (by kernel_rfl) (by kernel_rfl) (fun _ _ _ h => h) (Or.inl ⟨by rfl, ?_⟩) (by assumption) ?_
        rotate_left
        · (intro wz hSw; go_simp; try with_reducible rfl)
        try simp only [List.getElem_toArray, List.getElem_cons_zero, List.getElem_cons_succ, Act.put, List.setIfInBounds_toArray, List.set_cons_zero, List.set_cons_succ]
        refine wpAnyH_take (i := 11) (v := ?_) rfl (by kernel_rfl) (by kernel_rfl) (by kernel_rfl) (fun _ _ _ h => h) (Or.inl ⟨by rfl, ?_⟩) (by assumption) ?_
        rotate_left
        · (intro wz hSw; go_simp; try with_reducible rfl)
        try simp only [List.getElem_toArray, List.getElem_cons_zero, List.getElem_cons_succ, Act.put, List.setIfInBounds_toArray, List.set_cons_zero, List.set_cons_succ]
        refine wpAnyH_take (i := 12) (v := ?_) rfl (by kernel_rfl) (by kernel_rfl) (by kernel_rfl) (fun _ _ _ h => h) (Or.inl ⟨by rfl, ?_⟩) (by assumption) ?_
        rotate_left
        · (intro wz hSw; go_simp; try with_reducible rfl)
        try simp only [List.getElem_toArray, List.getElem_cons_zero, List.getElem_cons_succ, Act.put, List.setIfInBounds_toArray, List.set_cons_zero, List.set_cons_succ]
        refine wpAnyH_take (i := 13) (v := ?_) rfl (by kernel_rfl) (by kernel_rfl) (by kernel_rfl) (fun _ _ _ h => h) (Or.inl ⟨by rfl, ?_⟩) (by assumption) ?_
        rotate_left
        · (intro wz hSw; go_simp; try with_reducible rfl)
        try simp only [List.getElem_toArray, List.getElem_cons_zero, List.getElem_cons_succ, Act.put, List.setIfInBounds_toArray, List.set_cons_zero, List.set_cons_succ]
        refine' wpAnyH_take (i := 14) (v := _) rfl (by kernel_rfl) (by kernel_rfl) (by kernel_rfl) (fun _ _ _ h => h) (yieldsIf_load_mid (by rfl) _ _ rfl _ _ rfl _ _ (fun _ hs => hs.1) hu rfl i1) (by assumption) ?_
        try simp only [List.getElem_toArray, List.getElem_cons_zero, List.getElem_cons_succ, Act.put, List.setIfInBounds_toArray, List.set_cons_zero, List.set_cons_succ]
        refine' wpAnyH_take (i := 16) (v := _) rfl (by kernel_rfl) (by kernel_rfl) (by kernel_rfl) (fun _ _ _ h => h) (yieldsIf_load_mid (by rfl) _ _ rfl _ _ rfl _ _ (fun _ hs => hs.2.2.2.2.1) hu rfl i5) (by assumption) ?_
        try simp only [List.getElem_toArray, List.getElem_cons_zero, List.getElem_cons_succ, Act.put, List.setIfInBounds_toArray, List.set_cons_zero, List.set_cons_succ]
        refine wpAnyH_ready (rs := [15]) (by kernel_rfl) (by simp) (AllReadyH.cons rfl (fun K hK => ?_) AllReadyH.nil)
        go_simp
        refine (K2.out _).mono ?_
        rintro e w5 ⟨rfl, hbel⟩
        refine hK.out _ _ (S11.keep hHeld hbel ha hb ls lM la lb) (fun hHeld2 => ?_)
        clear hHeld hK K hbel; have hHeld := hHeld2; clear hHeld2
        try simp only [List.getElem_toArray, List.getElem_cons_zero, List.getElem_cons_succ, Act.put, List.setIfInBounds_toArray, List.set_cons_zero, List.set_cons_succ]
        refine wpAnyH_ready (rs := [17]) (by kernel_rfl) (by simp) (AllReadyH.cons rfl (fun K hK => ?_) AllReadyH.nil)
        go_simp
        refine (K3.out _).mono ?_
        rintro e w5 ⟨rfl, hbel⟩
        refine hK.out _ _ (S11.keep hHeld hbel ha hb ls lM la lb) (fun hHeld2 => ?_)
        clear hHeld hK K hbel; have hHeld := hHeld2; clear hHeld2
        try simp only [List.getElem_toArray, List.getElem_cons_zero, List.getElem_cons_succ, Act.put, List.setIfInBounds_toArray, List.set_cons_zero, List.set_cons_succ]
        refine wpAnyH_take (i := 18) (v := ?_) rfl (by kernel_rfl) (by kernel_rfl) (by kernel_rfl) (fun _ _ _ h => h) (Or.inl ⟨by rfl, ?_⟩) (by assumption) ?_
        rotate_left
        · (intro wz hSw; go_simp; try with_reducible rfl)
        try simp only [List.getElem_toArray, List.getElem_cons_zero, List.getElem_cons_succ, Act.put, List.setIfInBounds_toArray, List.set_cons_zero, List.set_cons_succ]
        refine wpAnyH_take (i := 19) (v := ?_) rfl (by kernel_rfl) (by kernel_rfl) (by kernel_rfl) (fun _ _ _ h => h) (Or.inl ⟨by rfl, ?_⟩) (by assumption) ?_
        rotate_left
        · (intro wz hSw; go_simp; try with_reducible rfl)
        try simp only [List.getElem_toArray, List.getElem_cons_zero, List.getElem_cons_succ, Act.put, List.setIfInBounds_toArray, List.set_cons_zero, List.set_cons_succ]
        refine wpAnyH_take (i := 20) (v := ?_) rfl (by kernel_rfl) (by kernel_rfl) (by kernel_rfl) (fun _ _ _ h => h) (Or.inl ⟨by rfl, ?_⟩) (by assumption) ?_
        rotate_left
        · (intro wz hSw; go_simp; try with_reducible rfl)
        try simp only [List.getElem_toArray, List.getElem_cons_zero, List.getElem_cons_succ, Act.put, List.setIfInBounds_toArray, List.set_cons_zero, List.set_cons_succ]
        refine' wpAnyH_take (i := 21) (v := _) rfl (by kernel_rfl) (by kernel_rfl) (by kernel_rfl) (fun _ _ _ h => h) (yieldsIf_load_mid (by rfl) _ _ rfl _ _ rfl _ _ (fun _ hs => hs.1) hu rfl i1) (by assumption) ?_
        try simp only [List.getElem_toArray, List.getElem_cons_zero, List.getElem_cons_succ, Act.put, List.setIfInBounds_toArray, List.set_cons_zero, List.set_cons_succ]
        refine' wpAnyH_take (i := 23) (v := _) rfl (by kernel_rfl) (by kernel_rfl) (by kernel_rfl) (fun _ _ _ h => h) (yieldsIf_load_mid (by rfl) _ _ rfl _ _ rfl _ _ (fun _ hs => hs.1) hu rfl i1) (by assumption) ?_
        try simp only [List.getElem_toArray, List.getElem_cons_zero, List.getElem_cons_succ, Act.put, List.setIfInBounds_toArray, List.set_cons_zero, List.set_cons_succ]
        refine wpAnyH_ready (rs := [22]) (by kernel_rfl) (by simp) (AllReadyH.cons rfl (fun K hK => ?_) AllReadyH.nil)
        go_simp
        refine (K4.out _).mono ?_
        rintro e w5 ⟨rfl, hbel⟩
        refine hK.out _ _ (S11.keep hHeld hbel ha hb ls lM la lb) (fun hHeld2 => ?_)
        clear hHeld hK K hbel; have hHeld := hHeld2; clear hHeld2
        try simp only [List.getElem_toArray, List.getElem_cons_zero, List.getElem_cons_succ, Act.put, List.setIfInBounds_toArray, List.set_cons_zero, List.set_cons_succ]
        refine wpAnyH_take (i := 24) (v := ?_) rfl (by kernel_rfl) (by kernel_rfl) (by kernel_rfl) (fun _ _ _ h => h) (Or.inl ⟨by rfl, ?_⟩) (by assumption) ?_
        rotate_left
        · (intro wz hSw; go_simp; try with_reducible rfl)
        try simp only [List.getElem_toArray, List.getElem_cons_zero, List.getElem_cons_succ, Act.put, List.setIfInBounds_toArray, List.set_cons_zero, List.set_cons_succ]
        refine wpAnyH_take (i := 25) (v := ?_) rfl (by kernel_rfl) (by kernel_rfl) (by kernel_rfl) (fun _ _ _ h => h) (Or.inl ⟨by rfl, ?_⟩) (by assumption) ?_
        rotate_left
        · (intro wz hSw; go_simp; try with_reducible rfl)
        try simp only [List.getElem_toArray, List.getElem_cons_zero, List.getElem_cons_succ, Act.put, List.setIfInBounds_toArray, List.set_cons_zero, List.set_cons_succ]
        refine wpAnyH_take (i := 26) (v := ?_) rfl (by kernel_rfl) (by kernel_rfl) (by kernel_rfl) (fun _ _ _ h => h) (Or.inl ⟨by rfl, ?_⟩) (by assumption) ?_
        rotate_left
        · (intro wz hSw; go_simp; try with_reducible rfl)
        try simp only [List.getElem_toArray, List.getElem_cons_zero, List.getElem_cons_succ, Act.put, List.setIfInBounds_toArray, List.set_cons_zero, List.set_cons_succ]
        refine' wpAnyH_take (i := 27) (v := _) rfl (by kernel_rfl) (by kernel_rfl) (by kernel_rfl) (fun _ _ _ h => h) (yieldsIf_load_mid (by rfl) _ _ rfl _ _ rfl _ _ (fun _ hs => hs.1) hu rfl i1) (by assumption) ?_
        try simp only [List.getElem_toArray, List.getElem_cons_zero, List.getElem_cons_succ, Act.put, List.setIfInBounds_toArray, List.set_cons_zero, List.set_cons_succ]
        refine' wpAnyH_take (i := 29) (v := _) rfl (by kernel_rfl) (by kernel_rfl) (by kernel_rfl) (fun _ _ _ h => h) (yieldsIf_load_mid (by rfl) _ _ rfl _ _ rfl _ _ (fun _ hs => hs.1) hu rfl i1) (by assumption) ?_
        try simp only [List.getElem_toArray, List.getElem_cons_zero, List.getElem_cons_succ, Act.put, List.setIfInBounds_toArray, List.set_cons_zero, List.set_cons_succ]
        refine wpAnyH_ready (rs := [28]) (by kernel_rfl) (by simp) (AllReadyH.cons rfl (fun K hK => ?_) AllReadyH.nil)
        go_simp
        refine (K5.out _).mono ?_
        rintro e w5 ⟨rfl, hbel⟩
        refine hK.out _ _ (S11.keep hHeld hbel ha hb ls lM la lb) (fun hHeld2 => ?_)
        clear hHeld hK K hbel; have hHeld := hHeld2; clear hHeld2
        try simp only [List.getElem_toArray, List.getElem_cons_zero, List.getElem_cons_succ, Act.put, List.setIfInBounds_toArray, List.set_cons_zero, List.set_cons_succ]
        refine wpAnyH_take (i := 30) (v := ?_) rfl (by kernel_rfl) (by kernel_rfl) (by kernel_rfl) (fun _ _ _ h => h) (Or.inl ⟨by rfl, ?_⟩) (by assumption) ?_
        rotate_left
        · (intro wz hSw; go_simp; try with_reducible rfl)
        try simp only [List.getElem_toArray, List.getElem_cons_zero, List.getElem_cons_succ, Act.put, List.setIfInBounds_toArray, List.set_cons_zero, List.set_cons_succ]
        refine wpAnyH_take (i := 31) (v := ?_) rfl (by kernel_rfl) (by kernel_rfl) (by kernel_rfl) (fun _ _ _ h => h) (Or.inl ⟨by rfl, ?_⟩) (by assumption) ?_
        rotate_left
        · (intro wz hSw; go_simp; try with_reducible rfl)
        try simp only [List.getElem_toArray, List.getElem_cons_zero, List.getElem_cons_succ, Act.put, List.setIfInBounds_toArray, List.set_cons_zero, List.set_cons_succ]
        refine wpAnyH_take (i := 32) (v := ?_) rfl (by kernel_rfl) (by kernel_rfl) (by kernel_rfl) (fun _ _ _ h => h) (Or.inl ⟨by rfl, ?_⟩) (by assumption) ?_
        rotate_left
        · (intro wz hSw; go_simp; try with_reducible rfl)
        try simp only [List.getElem_toArray, List.getElem_cons_zero, List.getElem_cons_succ, Act.put, List.setIfInBounds_toArray, List.set_cons_zero, List.set_cons_succ]
        refine wpAnyH_done (by kernel_rfl) ?_ _
        go_wp2
        go_ret
        exact ⟨rfl, hHeld.2.2.2.2.2.2⟩
theorem apart_walk (a : List Nat) (ha : a.length = 16) (ba : ∀ i, a.getD i 0 < 256) (b : List Nat) (hb : b.length = 16) (bb : ∀ i, b.getD i 0 < 256) (w : World) :
    Calls Try.prog 6 #[.agg (blk a), .agg (blk b)] w fun e w' => e = .returned (.bool true) ∧ Below w.heap.size w w' := apart_any a b ha hb ba bb w
end Go.Proofs.Ytaibegafoncddaa
