/-
  The contract of (*sha.running).work: a piece is worked in. Conditions: the eight numbers and the piece lie in the block that the pointer leads to, the tables in their variables.
-/
import Derived.Test.YtmookhbijmibiaaDoorShaSpread
import Derived.Test.YtmookhbijmibiaaDoorOnly
import Derived.Deep.Cut
namespace Go.Proofs.YtmookhbijmibiaaDoor
open Go.RowKit Arr Sh

theorem not32 (e : Nat) (he : e < 4294967296) : 4294967295 ^^^ e = 4294967295 - e := by
  apply Nat.eq_of_testBit_eq
  intro i
  have h : (4294967295 - e).testBit i = (decide (i < 32) && !e.testBit i) := by
    have := Nat.testBit_two_pow_sub_succ (x := e) (n := 32) he i
    rw [← this]; congr 1; omega
  have h1 : (4294967295 : Nat).testBit i = decide (i < 32) := by
    have := Nat.testBit_two_pow_sub_one 32 i
    exact this
  rw [Nat.testBit_xor, h, h1]
  by_cases hi : i < 32
  · simp [hi]
  · have : e.testBit i = false := Nat.testBit_lt_two_pow (Nat.lt_of_lt_of_le he (by
      have : 2 ^ 32 ≤ 2 ^ i := Nat.pow_le_pow_right (by omega) (by omega)
      omega))
    simp [hi, this]
/-- The first of one list, the others of another. -/
def half (u v : List Nat) (i : Nat) : List Nat := u.take i ++ v.drop i
theorem length_half (u v : List Nat) (i n : Nat) (hu : u.length = n) (hv : v.length = n) (hi : i ≤ n) : (half u v i).length = n := by simp [half, hu, hv]; omega
theorem half_get (u v : List Nat) (i n : Nat) (hu : u.length = n) (hi : i < n) : (half u v i).getD i 0 = v.getD i 0 := by
  have : (u.take i).length = i := by simp; omega
  simp [half, List.getElem?_append_right (show (u.take i).length ≤ i by omega), this]
theorem half_set (u v : List Nat) (i n : Nat) (hu : u.length = n) (hv : v.length = n) (hi : i < n) : (half u v i).set i (u.getD i 0) = half u v (i + 1) := by
  have h1 : (u.take i).length = i := by simp; omega
  have h2 : v.drop i = v.getD i 0 :: v.drop (i + 1) := by
    rw [List.drop_eq_getElem_cons (by omega)]
    simp [show i < v.length by omega]
  rw [half, h2, List.set_append_right _ _ (by omega), h1, Nat.sub_self, List.set_cons_zero, half, take_snoc u i (by omega), List.append_assoc]
  rfl
theorem plus_get (s t : St) (i : Nat) (hi : i < 8) : (s.l.getD i 0 + t.l.getD i 0) % 4294967296 = (plus s t).l.getD i 0 := by
  match i, hi with
  | 0, _ | 1, _ | 2, _ | 3, _ | 4, _ | 5, _ | 6, _ | 7, _ => rfl

theorem o8 : Of Tryd.prog 48 38 8 .u32 := ⟨Tryd.underlying48, by kernel_rfl, Tryd.underlying38, by kernel_rfl⟩
theorem z8 : (Tryd.prog.info? 48).bind (·.zero) = some (.agg (na .u32 (zs 8))) := by kernel_rfl

/-- What holds while a piece is worked in: l the numbers in block g. -/
structure Wk (w : World) (g bw bs : Nat) (sl wl l : List Nat) (wr : World) : Prop where
  now : HAt wr g 0 .u32 l
  words : Holds wr bw .u32 wl
  was : Holds wr bs .u32 sl
  kinds : Tab32 wr 2 K
  only : Only g w wr
  kept : ∀ o, 8 ≤ o → wr.cell? ⟨g, o, none⟩ = w.cell? ⟨g, o, none⟩ ∧ wr.frozen? ⟨g, o, none⟩ = w.frozen? ⟨g, o, none⟩
theorem Wk.drewN {w : World} {g bw bs : Nat} {sl wl l : List Nat} {wr : World} (h : Wk w g bw bs sl wl l wr) (n : Nat) : Wk w g bw bs sl wl l (wr.drewN n) := ⟨h.now, h.words, h.was, h.kinds, h.only.drewN n, h.kept⟩
theorem Wk.set {w : World} {g bw bs : Nat} {sl wl l : List Nat} {wr : World} (h : Wk w g bw bs sl wl l wr) (hl : l.length = 8) (i c : Nat) (hi : i < 8) (h1 : bw ≠ g) (h2 : bs ≠ g) (h3 : 2 ≠ g) : Wk w g bw bs sl wl (l.set i c) (wr.setCell ⟨g, i, none⟩ (.int .u32 (c : Int))) := by
  refine ⟨?_, h.words.beside _ _ (fun x => h1 x.symm), h.was.beside _ _ (fun x => h2 x.symm), fun j hj => ?_, h.only.setCell _ _, fun o ho => ?_⟩
  · have := h.now.set i c (by omega)
    rwa [Nat.zero_add] at this
  · rw [World.cell?_setCell_other _ _ _ _ (fun x => h3 (congrArg Addr.block x).symm)]; exact h.kinds j hj
  · rw [World.cell?_setCell_other _ _ _ _ (fun x => by have := congrArg Addr.off x; simp only at this; omega), World.frozen?_setCell]; exact h.kept o ho
/-- What a call of work leaves. -/
def Worked (g : Nat) (s : St) (p : List Nat) (w : World) (e : Ending) (w' : World) : Prop :=
  e = .returned (.tuple #[]) ∧ HAt w' g 0 .u32 (comp p s).l ∧ Only g w w' ∧ ∀ o, 8 ≤ o → w'.cell? ⟨g, o, none⟩ = w.cell? ⟨g, o, none⟩ ∧ w'.frozen? ⟨g, o, none⟩ = w.frozen? ⟨g, o, none⟩

set_option maxHeartbeats 4000000 in
set_option maxRecDepth 100000 in
theorem work_any (s : St) (hs : s.Ok) (p : List Nat) (hp : p.length = 64) (hb : ∀ x, x ∈ p → x < 256) (g : Nat) (w : World) (h0 : HAt w g 0 .u32 s.l) (h8 : HAt w g 8 .u8 p) (ht : Tab w 1) (hk : Tab32 w 2 K) (hgk : 2 ≠ g) :
    Calls Tryd.prog 30 #[.pointer (some ⟨g, 0, none⟩)] w (Worked g s p w) := by
  have C1 := Lib.hid (spread64 p hp hb g 8 w h8 ht)
  have hgw : g < w.heap.size := h8.lt (by omega)
  have hkw := hk.lt (by rw [length_K]; omega)
  have HS := Lib.hid hs
  have HK := Lib.hid hk
  have lw := length_ws p
  have HWW := Lib.hid (ws_ws p hb)
  have HC := Lib.hid (show comp p s = plus s (run (ws p) 64 s) from rfl)
  have HP := fun t z => Lib.hid (plus_get s z t)
  have hsl : s.l = [s.a, s.b, s.c, s.d, s.e, s.f, s.g, s.h] := rfl
  have ls := length_l s
  obtain ⟨sl, esl⟩ : ∃ sl, sl = s.l := ⟨_, rfl⟩
  obtain ⟨wl, ewl⟩ : ∃ wl, wl = ws p := ⟨_, rfl⟩
  rw [← esl] at ls h0 hsl
  simp only [← esl] at HP
  rw [← ewl] at lw C1 HWW HC
  have HSL := Lib.hid hsl
  have H0 := Lib.hid h0
  clear hp hb h8 ht hs h0 hk hsl esl ewl
  go_enter Tryd.func30, Tryd.ntmps30
  go_wp2_with fail
  refine C1.out.mono ?_
  rintro e w1 ⟨rfl, hb1⟩
  have hsz := hb1.size
  have A1 := Holds.new w1 65 .u32 (zs 64)
  have A2 := A1.put wl (by rw [lw, length_zs])
  have A3 := below_setCells (b := w1.heap.size) hsz (nv .u32 wl) 0 _ (hb1.alloc hsz (.cells (na .u32 (zs 64)) 65))
  have A4 : ((w1.alloc (.cells (na .u32 (zs 64)) 65)).setCells w1.heap.size 0 (nv .u32 wl)).heap.size = w1.heap.size + 1 := by rw [size_setCells, World.size_alloc]
  have D1 := Lib.hid A1
  have D2 := Lib.hid A2
  have D3 := Lib.hid A3
  have D4 := Lib.hid A4
  clear hb1 C1 A1 A2 A3 A4
  go_upto_region 1 with (first | (with_reducible refine Arr.alloc (t := 65) _ z64 ?_) | (with_reducible refine Arr.store o64 w1.heap.size (zs 64) wl (length_zs _) D1.out lw rfl rfl ?_) | fail)
  generalize (w1.alloc (.cells (na .u32 (zs 64)) 65)).setCells w1.heap.size 0 (nv .u32 wl) = w2 at *
  clear D1
  generalize w1.heap.size = bw at *
  have hbw2 := D4.out
  have HN := Lib.hid (H0.out.below D3.out hgw)
  have A1 := Holds.new w2 48 .u32 (zs 8)
  have A2 : Wk w g bw w2.heap.size sl wl sl ((w2.alloc (.cells (na .u32 (zs 8)) 48)).setCells w2.heap.size 0 (nv .u32 sl)) := by
    have x1 := A1.put sl (by rw [ls, length_zs])
    have x2 := below_setCells (b := w2.heap.size) (by omega) (nv .u32 sl) 0 _ (D3.out.alloc D3.out.size (.cells (na .u32 (zs 8)) 48))
    exact ⟨H0.out.below x2 hgw, (D2.out.alloc _).apart _ _ _ (by omega), x1, HK.out.below x2 hkw, Only.of x2, fun o _ => ⟨x2.cell (p := ⟨g, o, none⟩) hgw, x2.frozen (p := ⟨g, o, none⟩) hgw⟩⟩
  have D1 := Lib.hid A1
  have DA := Lib.hid A2
  have hbw3 := Lib.hid hbw2
  clear A1 A2 D2 D3 D4 H0 HK hbw2
  go_upto_region 2 with (first | (with_reducible refine Arr.loadAt o8 g 0 sl ls HN.out rfl ?_) | (with_reducible refine Arr.alloc (t := 48) _ z8 ?_) | (with_reducible refine Arr.store o8 w2.heap.size (zs 8) sl (length_zs _) D1.out ls rfl rfl ?_) | fail)
  generalize (w2.alloc (.cells (na .u32 (zs 8)) 48)).setCells w2.heap.size 0 (nv .u32 sl) = w3 at *
  clear D1 HN
  generalize w2.heap.size = bs at *
  have hbw2 := hbw3.out
  have h1g : bw ≠ g := by omega
  have h2g : bs ≠ g := by omega
  clear hbw2 hsz hbw3
  have c0 : w3.cell? ⟨bs, 0, none⟩ = some (.int .u32 (s.a : Int)) := by have := DA.out.was.cell 0 (by rw [ls]; omega); rw [HSL.out] at this; exact this
  have c1 : w3.cell? ⟨bs, 1, none⟩ = some (.int .u32 (s.b : Int)) := by have := DA.out.was.cell 1 (by rw [ls]; omega); rw [HSL.out] at this; exact this
  have c2 : w3.cell? ⟨bs, 2, none⟩ = some (.int .u32 (s.c : Int)) := by have := DA.out.was.cell 2 (by rw [ls]; omega); rw [HSL.out] at this; exact this
  have c3 : w3.cell? ⟨bs, 3, none⟩ = some (.int .u32 (s.d : Int)) := by have := DA.out.was.cell 3 (by rw [ls]; omega); rw [HSL.out] at this; exact this
  have c4 : w3.cell? ⟨bs, 4, none⟩ = some (.int .u32 (s.e : Int)) := by have := DA.out.was.cell 4 (by rw [ls]; omega); rw [HSL.out] at this; exact this
  have c5 : w3.cell? ⟨bs, 5, none⟩ = some (.int .u32 (s.f : Int)) := by have := DA.out.was.cell 5 (by rw [ls]; omega); rw [HSL.out] at this; exact this
  have c6 : w3.cell? ⟨bs, 6, none⟩ = some (.int .u32 (s.g : Int)) := by have := DA.out.was.cell 6 (by rw [ls]; omega); rw [HSL.out] at this; exact this
  have c7 : w3.cell? ⟨bs, 7, none⟩ = some (.int .u32 (s.h : Int)) := by have := DA.out.was.cell 7 (by rw [ls]; omega); rw [HSL.out] at this; exact this
  go_quiet (fail)
  have DB := Lib.hid (DA.out.drewN nq)
  clear c0 c1 c2 c3 c4 c5 c6 c7 DA
  generalize w3.drewN nq = w4 at *
  go_wp2_with fail
  go_loopw [4, 5, 6, 7, 8, 9, 10, 11, 41] (fun va vb vc vd ve vf vg vh i wr => ∃ (t : Nat) (z : St), t ≤ 64 ∧ i = .int .i64 (t : Nat) ∧ Go.RowKit.Hid (z = run wl t s) ∧ va = .int .u32 (z.a : Nat) ∧ vb = .int .u32 (z.b : Nat) ∧ vc = .int .u32 (z.c : Nat) ∧ vd = .int .u32 (z.d : Nat) ∧ ve = .int .u32 (z.e : Nat) ∧ vf = .int .u32 (z.f : Nat) ∧ vg = .int .u32 (z.g : Nat) ∧ vh = .int .u32 (z.h : Nat) ∧ Wk w g bw bs sl wl sl wr) (fun _ _ _ _ _ _ _ _ i _ => 64 - (intOf i).toNat)
  case atStart => exact ⟨0, s, by omega, rfl, Lib.hid rfl, rfl, rfl, rfl, rfl, rfl, rfl, rfl, rfl, DB.out⟩
  case round =>
    clear DB
    obtain ⟨t, z, ht, rfl, HZ, rfl, rfl, rfl, rfl, rfl, rfl, rfl, rfl, hw⟩ := hrel
    have HW := Lib.hid hw
    clear hw
    by_cases hlt : t < 64
    · as_aux_lemma =>
      have tt : decide ((t : Int) < 64) = true := by simp; omega
      have ti : (t : Int) < 64 := by omega
      have hok : z.Ok := by rw [HZ.out]; exact run_ok _ HS.out t
      have HZ' : Go.RowKit.Hid (Sh.step (K.getD t 0) (wl.getD t 0) z = run wl (t + 1) s) := Lib.hid (by rw [HZ.out]; rfl)
      have cK := HW.out.kinds t (by rw [length_K]; omega)
      have cW := HW.out.words.cell t (by omega)
      have hk := K_lt t
      have hv := HWW.out t
      obtain ⟨la, lb, lc, ld, le, lf, lg, lh⟩ := hok
      have C1 := Lib.hid (fun w' => (turns_any z.e 6 11 25 le (by omega) (by omega) (by omega) w').mono fun e w'' h => (⟨h.1, h.2.symm⟩ : e = .returned (.int .u32 ((tri z.e 6 11 25 : Nat) : Int)) ∧ w'' = w'))
      have C1' : Go.RowKit.Hid (∀ w', Calls Tryd.prog 34 #[.int .u32 (z.e : Int), .int .i64 6, .int .i64 11, .int .i64 25] w' fun e w'' => e = .returned (.int .u32 ((tri z.e 6 11 25 : Nat) : Int)) ∧ w'' = w') := Lib.hid C1.out
      have C2 : Go.RowKit.Hid (∀ w', Calls Tryd.prog 34 #[.int .u32 (z.a : Int), .int .i64 2, .int .i64 13, .int .i64 22] w' fun e w'' => e = .returned (.int .u32 ((tri z.a 2 13 22 : Nat) : Int)) ∧ w' = w'') := Lib.hid fun w' => turns_any z.a 2 13 22 la (by omega) (by omega) (by omega) w'
      have q1 := u32_and_nat z.e z.f le lf
      have q2 := u32_xor_nat 4294967295 z.e (by omega) le
      rw [not32 _ le] at q2
      have q2' : bits .xor .u32 (if IntKind.u32.signed = true then -1 else IntKind.u32.max) (z.e : Int) = ((4294967295 - z.e : Nat) : Int) := q2
      clear q2
      have q3 := u32_and_nat (4294967295 - z.e) z.g (by omega) lg
      have q4 : bits .or .u32 ((z.e &&& z.f : Nat) : Int) (((4294967295 - z.e) &&& z.g : Nat) : Int) = ((ch z.e z.f z.g : Nat) : Int) := u32_or_nat _ _ (and32 le) (and32 (by omega))
      have r1 := u32_and_nat z.a z.b la lb
      have r2 := u32_and_nat z.a z.c la lc
      have r3 := u32_or_nat _ _ (and32 (b := z.b) la) (and32 (b := z.c) la)
      have r4 := u32_and_nat z.b z.c lb lc
      have r5 : bits .or .u32 (((z.a &&& z.b) ||| (z.a &&& z.c) : Nat) : Int) ((z.b &&& z.c : Nat) : Int) = ((maj z.a z.b z.c : Nat) : Int) := u32_or_nat _ _ (or32 (and32 la) (and32 la)) (and32 lb)
      generalize hx1 : (z.h + tri z.e 6 11 25) % 4294967296 = x1
      generalize hx2 : (x1 + ch z.e z.f z.g) % 4294967296 = x2
      generalize hx3 : (x2 + K.getD t 0) % 4294967296 = x3
      generalize hx4 : (x3 + wl.getD t 0) % 4294967296 = x4
      generalize hx5 : (tri z.a 2 13 22 + maj z.a z.b z.c) % 4294967296 = x5
      generalize hx6 : (z.d + x4) % 4294967296 = x6
      generalize hx7 : (x4 + x5) % 4294967296 = x7
      have hst : Sh.step (K.getD t 0) (wl.getD t 0) z = ⟨x7, z.a, z.b, z.c, x6, z.e, z.f, z.g⟩ := by
        subst hx1 hx2 hx3 hx4 hx5 hx6 hx7; rfl
      rw [hst] at HZ'
      have y1 := add_u32 z.h (tri z.e 6 11 25)
      have y2 := add_u32 x1 (ch z.e z.f z.g)
      have y3 := add_u32 x2 (K.getD t 0)
      have y4 := add_u32 x3 (wl.getD t 0)
      have y5 := add_u32 (tri z.a 2 13 22) (maj z.a z.b z.c)
      have y6 := add_u32 z.d x4
      have y7 := add_u32 x4 x5
      rw [hx1] at y1
      rw [hx2] at y2
      rw [hx3] at y3
      rw [hx4] at y4
      rw [hx5] at y5
      rw [hx6] at y6
      rw [hx7] at y7
      clear hst hx1 hx2 hx3 hx4 hx5 hx6 hx7 C1
      generalize tri z.e 6 11 25 = u1 at *
      generalize tri z.a 2 13 22 = u2 at *
      generalize ch z.e z.f z.g = u3 at *
      generalize maj z.a z.b z.c = u4 at *
      generalize K.getD t 0 = kt at *
      generalize wl.getD t 0 = wt at *
      generalize (4294967295 - z.e) = ne at *
      generalize z.e &&& z.f = u5 at *
      generalize ne &&& z.g = u6 at *
      generalize (z.a &&& z.b) ||| (z.a &&& z.c) = u9 at *
      generalize z.a &&& z.b = u7 at *
      generalize z.a &&& z.c = u8 at *
      generalize z.b &&& z.c = u10 at *
      go_wp2_with fail
      go_quiet (first | (go_at_call 34; (with_reducible exact Calls.quiet_of_same (C1'.out _))))
      have HV := Lib.hid (HW.out.drewN nq)
      clear HW cK cW
      generalize wr.drewN nq = w5 at *
      go_wp2_with fail
      refine (C2.out _).mono ?_
      rintro e w6 ⟨rfl, rfl⟩
      go_wp2
      go_roundw
      case rel => exact ⟨t + 1, ⟨x7, z.a, z.b, z.c, x6, z.e, z.f, z.g⟩, by omega, by go_num, HZ', rfl, rfl, rfl, rfl, rfl, rfl, rfl, rfl, HV.out⟩
      case measure => simp [intOf]; omega
    · have et : (t : Int) = 64 := by omega
      rw [et]
      obtain rfl : t = 64 := by omega
      clear et
      have HC2 : Go.RowKit.Hid (comp p s = plus s z) := Lib.hid (by rw [HC.out, HZ.out])
      have HZO : Go.RowKit.Hid z.Ok := Lib.hid (by rw [HZ.out]; exact run_ok _ HS.out 64)
      clear HC HZ
      go_wp2_with fail
      have hl1 := length_l (plus s z)
      obtain ⟨nl, enl⟩ : ∃ nl, nl = (plus s z).l := ⟨_, rfl⟩
      rw [← enl] at hl1
      have HFin : Go.RowKit.Hid (nl = (comp p s).l) := Lib.hid (by rw [HC2.out, enl])
      have HP2 : Go.RowKit.Hid (∀ i, i < 8 → (sl.getD i 0 + z.l.getD i 0) % 4294967296 = nl.getD i 0) := Lib.hid (fun i hi => by rw [enl]; exact (HP i z).out hi)
      have HIX : Go.RowKit.Hid (∀ i : Nat, i < 8 → ∀ W : World, (Instr.index 48 (.agg #[.int .u32 (z.a : Int), .int .u32 (z.b : Int), .int .u32 (z.c : Int), .int .u32 (z.d : Int), .int .u32 (z.e : Int), .int .u32 (z.f : Int), .int .u32 (z.g : Int), .int .u32 (z.h : Int)]) (.int .i64 (i : Int))).run Tryd.prog W = .ok (.int .u32 ((z.l.getD i 0 : Nat) : Int)) W) := Lib.hid (fun i hi W => Arr.index o8 W z.l (length_l z) .i64 i hi)
      generalize z.l = zl at *
      clear HC2 HP HZO HSL enl HWW HS
      go_loopw [101] (fun i wr => ∃ t : Nat, t ≤ 8 ∧ i = .int .i64 (t : Nat) ∧ Wk w g bw bs sl wl (half nl sl t) wr) (fun i _ => 8 - (intOf i).toNat)
      case atStart => exact ⟨0, by omega, rfl, HW.out⟩
      case round =>
        clear HW
        obtain ⟨t, ht, rfl, hw⟩ := hrel
        have HW := Lib.hid hw
        clear hw
        by_cases hlt : t < 8
        · have tt : decide ((t : Int) < 8) = true := by simp; omega
          have ti : (t : Int) < 8 := by omega
          have hix := HIX.out t hlt
          have y1 := add_u32 (sl.getD t 0) (zl.getD t 0)
          rw [HP2.out t hlt] at y1
          have c1 := HW.out.was.cell t (by omega)
          have HS := Lib.hid (half_set nl sl t 8 hl1 ls hlt)
          have LH := length_half nl sl t 8 hl1 ls (by omega)
          generalize half nl sl t = hl at *
          generalize zl.getD t 0 = v at *
          generalize sl.getD t 0 = u at *
          generalize nl.getD t 0 = x at *
          have HIX2 := HIX
          clear HIX
          go_wp2_with fail
          refine region_quiet_tail 10 (by kernel_rfl) (by kernel_rfl) ?_
          simp only [List.take_succ_cons, List.take_zero, List.drop_succ_cons, List.drop_zero]
          repeat (go_big_quiet_step (fail))
          refine wpQuiet_nil ?_
          intro wd hwd
          have G1 : Wk w g bw bs sl wl hl wd := by obtain ⟨n, rfl⟩ := hwd; exact HW.out.drewN n
          clear hwd HW c1 y1 hix
          have cl := G1.now.cell t (by omega)
          have fr := G1.now.frozen t (by omega)
          rw [Nat.zero_add] at cl fr
          have X1 := G1.set LH t x hlt h1g h2g hgk
          rw [HS.out] at X1
          have X1 := Lib.hid X1
          clear G1
          generalize hl.getD t 0 = old at *
          go_wp2
          go_roundw
          case rel => exact ⟨t + 1, by omega, by go_num, X1.out⟩
          case measure => simp [intOf]; omega
        · obtain rfl : t = 8 := by omega
          have hfin : half nl sl 8 = nl := by simp [half, hl1, ls, List.take_of_length_le, List.drop_of_length_le]
          rw [hfin, HFin.out] at HW
          go_wp2
          go_end0
          exact ⟨rfl, HW.out.now, HW.out.only, HW.out.kept⟩
end Go.Proofs.YtmookhbijmibiaaDoor
