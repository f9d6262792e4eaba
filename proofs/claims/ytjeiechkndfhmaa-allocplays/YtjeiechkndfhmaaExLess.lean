/-
  The contract of extent's Less. Condition: the slices hold their extents.
-/
import Derived.Test.YtjeiechkndfhmaaExJoin
namespace Go.Proofs.Ytjeiechkndfhmaa
open Go.RowKit Arr Ex

theorem elem_e : Try.prog.elem 23 = 34 := by have := Try.underlying23; simp only [Program.elem, this]
theorem under_e : Try.prog.underlying 23 = some (.slice (Try.prog.elem 23)) := by rw [elem_e]; exact Try.underlying23
theorem size2_e : (Try.prog.info? 34).map (·.size) = some 2 := by kernel_rfl
theorem sizeof_e (W : World) : (sizeOf (Try.prog.elem 23)).run Try.prog W = .ok 2 W := by
  rw [elem_e]
  have h := size2_e
  cases hq : Try.prog.info? 34 with
  | none => simp [hq] at h
  | some i => simp [hq] at h; simp [sizeOf, typeInfo, hq, h]
/-- 'b[1:]'. -/
theorem tail_slice {w : World} {B b off n c : Nat} {y : Int × Int} {bs : List (Int × Int)} (h : Exts w B (some ⟨b, off, none⟩) (y :: bs)) (hn : n = bs.length + 1) (hc : n ≤ c) :
    ∃ A', (∀ W, (Instr.slice 23 (.slice (some ⟨b, off, none⟩) n c) (some (.int .i64 1)) none none).run Try.prog W = .ok (.slice A' (n - 1) (c - 1)) W) ∧ Exts w B A' bs := by
  by_cases h1 : c = 1
  · subst h1
    obtain rfl : n = 1 := by omega
    obtain rfl := List.eq_nil_of_length_eq_zero (show bs.length = 0 by omega)
    refine ⟨some ⟨b, off, none⟩, fun W => ?_, Exts.nil _ _ _⟩
    rw [run_slice_l W 23 _ 1 1 under_e .i64 1 (by omega) (by omega), sizeof_e]
    rfl
  · refine ⟨some ⟨b, off + 2, none⟩, fun W => ?_, h.tail⟩
    rw [run_slice_l W 23 _ n c under_e .i64 1 (by omega) (by omega), sizeof_e]
    simp only [Result.andThen_ok, sliced]
    rw [show (1 : Int).toNat = 1 from rfl, if_neg h1, Option.map_some, add_nat2]
def sliceLen : Value → Nat
  | .slice _ n _ => n
  | _ => 0
/-- What Less leaves. -/
def LessP (a b : List (Int × Int)) (w : World) (e : Ending) (w' : World) : Prop :=
  ∃ v l, e = .returned (.tuple #[v, .bool (lessOk a b)]) ∧ Own2 w' w.heap.size v l ∧ Below w.heap.size w w' ∧ (lessOk a b = true → l = lessL a b) ∧ (lessOk a b = false → l = [])
theorem lessP_not {a b : List (Int × Int)} {w w' : World} (h : lessOk a b = false) (hb : Below w.heap.size w w') : LessP a b w (.returned (.tuple #[.slice none 0 0, .bool false])) w' :=
  ⟨_, [], by rw [h], own2_nil _ _, hb, (fun e => by rw [h] at e; cases e), fun _ => rfl⟩
theorem heap_cell {w w' : World} {b o : Nat} (h : w'.heap[b]? = w.heap[b]?) : w'.cell? ⟨b, o, none⟩ = w.cell? ⟨b, o, none⟩ := World.cell?_of_block (w := w) (a := ⟨b, o, none⟩) h
/-- The state between two extents. -/
structure Mid (w wr : World) (vb vo : Value) (bs o : List (Int × Int)) : Prop where
  slice : ∃ Ab cb, vb = .slice Ab bs.length cb ∧ bs.length ≤ cb ∧ Exts wr w.heap.size Ab bs
  own : Own2 wr w.heap.size vo o
  below : Below w.heap.size w wr
  may : ∀ y, y ∈ bs → Ex.may y = true
theorem Mid.later {w wr w' : World} {vb vo : Value} {bs o : List (Int × Int)} (h : Mid w wr vb vo bs o) (hb : Below wr.heap.size wr w') : Mid w w' vb vo bs o :=
  ⟨by obtain ⟨A, c, e, hc, hx⟩ := h.slice; exact ⟨A, c, e, hc, hx.below (hb.mono h.below.size)⟩, h.own.below hb, h.below.trans (hb.mono h.below.size), h.may⟩
theorem Mid.put {w wr w' : World} {vb vo v' : Value} {bs o o' : List (Int × Int)} (h : Mid w wr vb vo bs o) (ho : Own2 w' w.heap.size v' o') (hb : Below w.heap.size wr w') : Mid w w' vb v' bs o' :=
  ⟨by obtain ⟨A, c, e, hc, hx⟩ := h.slice; exact ⟨A, c, e, hc, hx.below hb⟩, ho, h.below.trans hb, h.may⟩
set_option maxRecDepth 100000 in
set_option maxHeartbeats 8000000 in
theorem less_any (w : World) (A0 A1 : Option Addr) (n0 c0 n1 c1 : Nat) (a b : List (Int × Int)) (h0 : a.length = n0) (h1 : b.length = n1) (hn0 : n0 ≤ 1000) (hn1 : n1 ≤ 1000) (hc1 : n1 ≤ c1)
    (hb0 : Exts w w.heap.size A0 a) (hb1 : Exts w w.heap.size A1 b) :
    Calls Try.prog 32 #[.slice A0 n0 c0, .slice A1 n1 c1] w (LessP a b w) := by
  have mixed : Try.prog.follows .mixedOrders = true := by kernel_rfl
  have C1 := Lib.hid (right_any w A0 c0 n0 a h0 hb0 (by omega))
  have HA := Lib.hid hb0
  have HB := Lib.hid hb1
  have HL := Lib.hid (And.intro h0 h1)
  clear hb0 hb1 h0 h1
  go_enter Try.func32, Try.ntmps32
  by_cases hra : right a = true
  · rw [hra] at C1
    go_wp2_with fail
    refine C1.out.mono ?_
    rintro e w2 ⟨rfl, hb2⟩
    have HW2 := Lib.hid hb2
    have C2 := Lib.hid (right_any w2 A1 c1 n1 b HL.out.2 (HB.out.later hb2) (by omega))
    clear hb2 C1
    by_cases hrb : right b = true
    · rw [hrb] at C2
      go_wp2_with fail
      refine C2.out.mono ?_
      rintro e w3 ⟨rfl, hb3⟩
      have HW3 := Lib.hid (HW2.out.trans (hb3.mono HW2.out.size))
      have HRA := Lib.hid ((right_iff a).1 hra)
      have HRB := Lib.hid ((right_iff b).1 hrb)
      have HR := Lib.hid (And.intro hra hrb)
      clear hb3 C2 hra hrb
      go_wp2
      go_loopw [1, 6, 20] (fun vb vo i wr => ∃ (k : Nat) (bs o : List (Int × Int)), k ≤ n0 ∧ i = .int .i64 k ∧ Mid w wr vb vo bs o ∧ lall (a.drop k) (o, bs) = lall a ([], b) ∧ o.length + bs.length ≤ b.length + k) (fun _ _ i _ => n0 - (intOf i).toNat)
      case atStart => exact ⟨0, b, [], Nat.zero_le _, rfl, ⟨⟨A1, c1, by rw [HL.out.2], by rw [HL.out.2]; exact hc1, HB.out.below HW3.out⟩, own2_nil _ _, HW3.out, HRB.out.1⟩, by simp, by simp⟩
      case round =>
        obtain ⟨k, bs0, o0, hk, rfl, hmid, hall, hlen⟩ := hrel
        have HM := Lib.hid hmid
        have HALL := Lib.hid hall
        have HLEN := Lib.hid hlen
        by_cases hlt : k < n0
        · have hki : k < a.length := by rw [HL.out.1]; exact hlt
          obtain ⟨ba, offa, x1, x2, rfl, hba, hxy, hi, q0, q1⟩ := (HA.out.below hmid.below).at hki
          have hmx : may (x1, x2) = true := by rw [← hxy]; exact HRA.out.1 _ (List.getElem_mem hki)
          have HMX := Lib.hid hmx
          have hmx' := (may_iff _).1 hmx
          dsimp only at hmx'
          have hst := drop_cons hki
          rw [hxy] at hst
          rw [hst, lall_cons] at hall
          have HAL := Lib.hid (show lall (a.drop (k + 1)) (lin (x1 + x2) x1 o0 bs0) = lall a ([], b) from hall)
          have t1 : decide ((k : Int) < (n0 : Int)) = true := by simp; omega
          have wk : IntKind.i64.wrap ((k : Int) + 1) = (k : Int) + 1 := by rw [IntKind.wrap_i64]; omega
          have HMX' := Lib.hid hmx'
          have HNB := hmid.below.size
          have HS0 := hmid.own.lt
          obtain ⟨Ab0, cb0, rfl, hcb0, hxb0⟩ := hmid.slice
          have HMB := Lib.hid hmid.below
          have hal := below_alloc wr (.cells #[.int .i64 x1, .int .i64 x2] 34)
          have HMid1 := Lib.hid (show Mid w (wr.alloc (.cells #[.int .i64 x1, .int .i64 x2] 34)) (.slice Ab0 bs0.length cb0) u6 bs0 o0 from ⟨⟨Ab0, cb0, rfl, hcb0, hxb0.below (hal.mono HNB)⟩, hmid.own.alloc _, HMB.out.trans (hal.mono HNB), hmid.may⟩)
          have b0 : (wr.alloc (.cells #[.int .i64 x1, .int .i64 x2] 34)).cell? ⟨wr.heap.size, 0, none⟩ = some (.int .i64 x1) := by rw [World.cell?_alloc_new]; rfl
          have b1 : (wr.alloc (.cells #[.int .i64 x1, .int .i64 x2] 34)).cell? ⟨wr.heap.size, 1, none⟩ = some (.int .i64 x2) := by rw [World.cell?_alloc_new]; rfl
          have hsz : wr.heap.size < (wr.alloc (.cells #[.int .i64 x1, .int .i64 x2] 34)).heap.size := by simp
          have hown : u6.ownBlock ≠ some wr.heap.size := fun e => by have := HS0 _ e; omega
          clear hmid hall hst hxy hi hal HMB hxb0 HS0 hmx hmx' hlen
          go_wp2
          generalize wr.alloc (.cells #[.int .i64 x1, .int .i64 x2] 34) = wa at *
          generalize wr.heap.size = nb at *
          go_loopw [1, 6, 9] (fun vb vo vs ws => ∃ (bs o : List (Int × Int)) (s : Int) (Vb Vo : Value) (Ws : World), Vb = vb ∧ Vo = vo ∧ Ws = ws ∧ vs = .int .i64 s ∧ x1 ≤ s ∧ s ≤ x1 + x2 ∧ Mid w ws vb vo bs o ∧ lin (x1 + x2) s o bs = lin (x1 + x2) x1 o0 bs0 ∧ o.length + bs.length ≤ b.length + k ∧ ws.cell? ⟨nb, 0, none⟩ = some (.int .i64 x1) ∧ ws.cell? ⟨nb, 1, none⟩ = some (.int .i64 x2) ∧ nb < ws.heap.size ∧ vo.ownBlock ≠ some nb) (fun vb _ _ _ => sliceLen vb)
          case atStart => exact ⟨bs0, o0, x1, _, _, _, rfl, rfl, rfl, rfl, by omega, by have := HMX'.out; omega, HMid1.out, rfl, HLEN.out, b0, b1, hsz, hown⟩
          case round =>
            obtain ⟨bs, o, s, vb', Vo, ws, rfl, rfl, rfl, rfl, hs1, hs2, hmid, hlin, hlen, b0, b1, hsz, hown⟩ := hrel
            have HLIN := Lib.hid hlin
            have HLEN2 := Lib.hid hlen
            have HOWN := Lib.hid hown
            have HS := Lib.hid (And.intro hs1 hs2)
            have HMID := Lib.hid hmid
            clear hlin hlen hown HMid1
            -- inner
            cases bs with
            | nil =>
              obtain ⟨Ab, cb, e1, hcb, hxb⟩ := HMID.out.slice
              have e1 : vb' = .slice Ab 0 cb := e1
              subst e1
              have t2 : decide (((0 : Nat) : Int) > 0) = false := by simp
              clear hxb
              have d0 : ws.cell? ⟨nb, 0, none⟩ = some (.int .i64 x1) := b0
              have d1 : ws.cell? ⟨nb, 1, none⟩ = some (.int .i64 x2) := b1
              go_wp2_with fail
              go_quiet (fail)
              have HG := Lib.hid (below_drewN_self ws nq)
              have d2 : (ws.drewN nq).cell? ⟨nb, 0, none⟩ = some (.int .i64 x1) := d0
              have d3 : (ws.drewN nq).cell? ⟨nb, 1, none⟩ = some (.int .i64 x2) := d1
              clear d0 d1

              have HSTOP := Lib.hid (show lin (x1 + x2) x1 o0 bs0 = (o ++ pc s (x1 + x2), []) by rw [← HLIN.out]; exact lin_nil _ _ _)
              have HMZ := Lib.hid (HMID.out.later HG.out)
              clear b0 b1 hsz HMID 
              generalize ws.drewN nq = wz at *
              have CBH := Lib.hid (behind_any wz x1 x2 HMX.out)
              clear HG
              go_wp2_with fail
              refine CBH.out.mono ?_
              rintro e w7 ⟨rfl, hb7⟩
              have HM7 := Lib.hid (HMZ.out.later hb7)
              have CW := Lib.hid (with_any w7 w.heap.size Vo o HM7.out.own (by have := HLEN2.out; have := HL.out; omega) HM7.out.below.size s (x1 + x2) (by have := HS.out; have := HMX'.out; omega) (by have := HS.out; omega) (by have := HMX'.out; omega))
              clear hb7 CBH
              go_wp2_with fail
              refine CW.out.mono ?_
              rintro e w8 ⟨v8, rfl, hown8, hbel8, _, _⟩
              have HM8 := Lib.hid (HM7.out.put hown8 hbel8)
              clear hown8 hbel8 CW
              go_wp2
              go_roundw
              case rel => exact ⟨k + 1, [], _, by omega, by go_num, HM8.out, by rw [← HAL.out, HSTOP.out], by have := HLEN2.out; have := length_pc s (x1 + x2); simp only [List.length_append, List.length_nil] at *; omega⟩
              case measure => simp [intOf]; omega
            | cons y bs =>
              obtain ⟨y1, y2⟩ := y
              obtain ⟨Ab, cb, e1, hcb, hxb⟩ := HMID.out.slice
              subst e1
              have hmy := HMID.out.may (y1, y2) (by simp)
              have hmy' := (may_iff _).1 hmy
              dsimp only at hmy'
              have HMY := Lib.hid hmy
              have HMY' := Lib.hid hmy'
              obtain ⟨bb, off, ya, yb, rfl, hbb, hyy, _, q0, q1⟩ := hxb.at (k := 0) (by simp)
              obtain ⟨rfl, rfl⟩ : y1 = ya ∧ y2 = yb := by simpa using hyy
              rw [Nat.zero_mul, Nat.add_zero] at q0 q1
              have hbw : bb < ws.heap.size := Nat.lt_of_lt_of_le hbb HMID.out.below.size
              have t3 : 0 < (((y1, y2) :: bs).length : Int) := by simp
              have HCB := Lib.hid hcb
              rw [List.length_cons] at t3 HCB HLEN2 hcb ⊢
              have HLB := Lib.hid (show ((y1, y2) :: bs).length = bs.length + 1 from rfl)
              generalize hq : bs.length + 1 = m at *
              have HQ := Lib.hid hq
              have t2 : decide ((m : Int) > 0) = true := by simpa using t3
              have tm : 0 < m := by omega
              clear hq hyy hxb hcb hmy
              by_cases g0 : s ≤ y1
              · have t4 : decide (y1 ≥ s) = true := by simpa using g0
                have G0 := fun n os => cell_grown (show (⟨bb, off, none⟩ : Addr).block < ws.heap.size from hbw) q0 n os
                have G1 := fun n os => cell_grown (show (⟨bb, off + 1, none⟩ : Addr).block < ws.heap.size from hbw) q1 n os
                have B0 := fun n os => cell_grown (show (⟨nb, 0, none⟩ : Addr).block < ws.heap.size from hsz) b0 n os
                have B1 := fun n os => cell_grown (show (⟨nb, 1, none⟩ : Addr).block < ws.heap.size from hsz) b1 n os
                have CY := Lib.hid (fun n os => (behind_run (Sort.grow (ws.drewN n) os) y1 y2 HMY.out).mono fun e w' (h : e = .returned (.int .i64 (y1 + y2)) ∧ w' = _) => (⟨h.1, 0, _, h.2.trans (Sort.alloc_eq_grow _ _)⟩ : e = .returned (.int .i64 (y1 + y2)) ∧ ∃ q os', w' = Sort.grow ((Sort.grow (ws.drewN n) os).drewN q) os'))
                have CX := Lib.hid (fun n os => (behind_run (Sort.grow (ws.drewN n) os) x1 x2 HMX.out).mono fun e w' (h : e = .returned (.int .i64 (x1 + x2)) ∧ w' = _) => (⟨h.1, 0, _, h.2.trans (Sort.alloc_eq_grow _ _)⟩ : e = .returned (.int .i64 (x1 + x2)) ∧ ∃ q os', w' = Sort.grow ((Sort.grow (ws.drewN n) os).drewN q) os'))
                by_cases g1 : y1 + y2 ≤ x1 + x2
                · have t5 : decide (y1 + y2 ≤ x1 + x2) = true := by simpa using g1
                  go_wp2_with fail
                  go_quiet_grown (first | (go_at_call 42; refine Calls.grown_of (CY.out _ _)) | (go_at_call 42; refine Calls.grown_of (CX.out _ _)))
                  have HG := Lib.hid (below_grown ws nq osq)
                  have p0 := G0 nq osq
                  have HMZ := Lib.hid (HMID.out.later HG.out)
                  have d0 := B0 nq osq
                  have d1 := B1 nq osq
                  have hsz' : nb < (Sort.grow (ws.drewN nq) osq).heap.size := Nat.lt_of_lt_of_le hsz HG.out.size
                  clear G0 G1 B0 B1 b0 b1 q0 q1 HMID CX CY HG hbw hsz
                  generalize Sort.grow (ws.drewN nq) osq = wz at *
                  have CW := Lib.hid (with_any wz w.heap.size Vo o HMZ.out.own (by have := HLEN2.out; have := HL.out; omega) HMZ.out.below.size s y1 (by have := HS.out; have := HMX'.out; omega) g0 (by have := HMY'.out; omega))
                  go_wp2_with fail
                  refine CW.out.mono ?_
                  rintro e w8 ⟨v8, rfl, hown8, hbel8, hblk8, hkept8⟩
                  have HM8 := Lib.hid (HMZ.out.put hown8 hbel8)
                  have hk8 := hkept8 nb hsz' (fun e => HOWN.out e.symm)
                  have D0 := Lib.hid ((heap_cell (o := 0) hk8).trans d0)
                  have D1 := Lib.hid ((heap_cell (o := 1) hk8).trans d1)
                  have HSZ := Lib.hid (show nb < w8.heap.size by have := hbel8.size; omega)
                  have HO8 := Lib.hid (show v8.ownBlock ≠ some nb from by
                    rcases hblk8 with h | ⟨g, h, hg⟩
                    · rw [h]; exact HOWN.out
                    · rw [h]; intro e; simp only [Option.some.injEq] at e; omega)
                  have r0 := (hbel8.cell (p := ⟨bb, off, none⟩) hbb).trans p0
                  obtain ⟨A8, c8, e8, hc8, hx8⟩ := HM8.out.slice
                  simp only [List.length_cons, Value.slice.injEq] at e8
                  obtain ⟨rfl, _, rfl⟩ := e8
                  obtain ⟨b9, off9, ya, yb, e9, hb9, hyy, _, r1, r2⟩ := hx8.at (k := 0) (by simp)
                  simp only [Option.some.injEq, Addr.mk.injEq, and_true] at e9
                  obtain ⟨rfl, rfl⟩ := e9
                  obtain ⟨rfl, rfl⟩ : y1 = ya ∧ y2 = yb := by simpa using hyy
                  rw [Nat.zero_mul, Nat.add_zero] at r1 r2
                  clear hown8 hbel8 hblk8 hkept8 hk8 d0 d1 p0 hsz' CW hyy HMZ hc8 r0
                  have CY := Lib.hid (behind_any w8 y1 y2 HMY.out)
                  obtain ⟨A', hsl, hx'⟩ := tail_slice hx8 HQ.out.symm HCB.out
                  have HX' := Lib.hid hx'
                  clear hx' hx8
                  go_wp2_with fail
                  refine CY.out.mono ?_
                  rintro e w9 ⟨rfl, hb9'⟩
                  have HMA := Lib.hid (HM8.out.later hb9')
                  have HMB := Lib.hid (show Mid w w9 (.slice A' (m - 1) (cb - 1)) v8 bs (o ++ pc s y1) from ⟨⟨A', cb - 1, by rw [← HQ.out]; rfl, by have := HCB.out; have := HQ.out; omega, HX'.out.below (hb9'.mono HM8.out.below.size)⟩, HMA.out.own, HMA.out.below, fun z hz => HMA.out.may z (by simp [hz])⟩)
                  have HD0 := Lib.hid ((hb9'.cell (p := ⟨nb, 0, none⟩) HSZ.out).trans D0.out)
                  have HD1 := Lib.hid ((hb9'.cell (p := ⟨nb, 1, none⟩) HSZ.out).trans D1.out)
                  have HSZ9 := Lib.hid (Nat.lt_of_lt_of_le HSZ.out hb9'.size)
                  have HLN := Lib.hid (show lin (x1 + x2) (y1 + y2) (o ++ pc s y1) bs = lin (x1 + x2) x1 o0 bs0 by rw [← HLIN.out, lin_in (y := (y1, y2)) ⟨g0, g1⟩])
                  clear hb9' r1 r2 HM8 HX' HMA D0 D1 HSZ CY
                  go_wp2
                  go_roundw
                  case rel => exact ⟨bs, _, y1 + y2, _, v8, _, rfl, rfl, rfl, rfl, by have := HS.out; have := HMY'.out; omega, g1, HMB.out, HLN.out, by have := HLEN2.out; have := length_pc s y1; have := HQ.out; simp only [List.length_append, List.length_cons] at *; omega, HD0.out, HD1.out, HSZ9.out, HO8.out⟩
                  case measure => simp only [sliceLen]; omega
                · have t5 : decide (y1 + y2 ≤ x1 + x2) = false := by simp; omega
                  go_wp2_with fail
                  go_quiet_grown (first | (go_at_call 42; refine Calls.grown_of (CY.out _ _)) | (go_at_call 42; refine Calls.grown_of (CX.out _ _)))
                  have HG := Lib.hid (below_grown ws nq osq)
                  have d2 := B0 nq osq
                  have d3 := B1 nq osq
                  clear G0 G1 B0 B1 q0 q1 CX CY
                  have HSTOP := Lib.hid (show lin (x1 + x2) x1 o0 bs0 = (o ++ pc s (x1 + x2), (y1, y2) :: bs) by rw [← HLIN.out]; exact lin_out (y := (y1, y2)) (fun h => by have h1 := h.2; dsimp only at h1; omega) _ _)
                  have HMZ := Lib.hid (HMID.out.later HG.out)
                  clear b0 b1 hsz HMID 
                  generalize Sort.grow (ws.drewN nq) osq = wz at *
                  have CBH := Lib.hid (behind_any wz x1 x2 HMX.out)
                  clear HG
                  go_wp2_with fail
                  refine CBH.out.mono ?_
                  rintro e w7 ⟨rfl, hb7⟩
                  have HM7 := Lib.hid (HMZ.out.later hb7)
                  have CW := Lib.hid (with_any w7 w.heap.size Vo o HM7.out.own (by have := HLEN2.out; have := HL.out; omega) HM7.out.below.size s (x1 + x2) (by have := HS.out; have := HMX'.out; omega) (by have := HS.out; omega) (by have := HMX'.out; omega))
                  clear hb7 CBH
                  go_wp2_with fail
                  refine CW.out.mono ?_
                  rintro e w8 ⟨v8, rfl, hown8, hbel8, _, _⟩
                  have HM8 := Lib.hid (HM7.out.put hown8 hbel8)
                  clear hown8 hbel8 CW
                  go_wp2
                  go_roundw
                  case rel => exact ⟨k + 1, (y1, y2) :: bs, _, by omega, by go_num, (by rw [← HQ.out]; exact HM8.out), by rw [← HAL.out, HSTOP.out], by have := HLEN2.out; have := length_pc s (x1 + x2); have := HQ.out; simp only [List.length_append, List.length_cons] at *; omega⟩
                  case measure => simp [intOf]; omega

              · have t4 : decide (y1 ≥ s) = false := by simp; omega
                have d0 : ws.cell? ⟨nb, 0, none⟩ = some (.int .i64 x1) := b0
                have d1 : ws.cell? ⟨nb, 1, none⟩ = some (.int .i64 x2) := b1
                go_wp2_with fail
                go_quiet (fail)
                have HG := Lib.hid (below_drewN_self ws nq)
                have d2 : (ws.drewN nq).cell? ⟨nb, 0, none⟩ = some (.int .i64 x1) := d0
                have d3 : (ws.drewN nq).cell? ⟨nb, 1, none⟩ = some (.int .i64 x2) := d1
                clear d0 d1 q0 q1
                have HSTOP := Lib.hid (show lin (x1 + x2) x1 o0 bs0 = (o ++ pc s (x1 + x2), (y1, y2) :: bs) by rw [← HLIN.out]; exact lin_out (y := (y1, y2)) (fun h => by have h1 := h.1; dsimp only at h1; omega) _ _)
                have HMZ := Lib.hid (HMID.out.later HG.out)
                clear b0 b1 hsz HMID 
                generalize ws.drewN nq = wz at *
                have CBH := Lib.hid (behind_any wz x1 x2 HMX.out)
                clear HG
                go_wp2_with fail
                refine CBH.out.mono ?_
                rintro e w7 ⟨rfl, hb7⟩
                have HM7 := Lib.hid (HMZ.out.later hb7)
                have CW := Lib.hid (with_any w7 w.heap.size Vo o HM7.out.own (by have := HLEN2.out; have := HL.out; omega) HM7.out.below.size s (x1 + x2) (by have := HS.out; have := HMX'.out; omega) (by have := HS.out; omega) (by have := HMX'.out; omega))
                clear hb7 CBH
                go_wp2_with fail
                refine CW.out.mono ?_
                rintro e w8 ⟨v8, rfl, hown8, hbel8, _, _⟩
                have HM8 := Lib.hid (HM7.out.put hown8 hbel8)
                clear hown8 hbel8 CW
                go_wp2
                go_roundw
                case rel => exact ⟨k + 1, (y1, y2) :: bs, _, by omega, by go_num, (by rw [← HQ.out]; exact HM8.out), by rw [← HAL.out, HSTOP.out], by have := HLEN2.out; have := length_pc s (x1 + x2); have := HQ.out; simp only [List.length_append, List.length_cons] at *; omega⟩
                case measure => simp [intOf]; omega
            -- end inner
        · obtain rfl : k = n0 := by omega
          have t1 : decide ((k : Int) < (k : Int)) = false := by simp
          have hd : a.drop k = [] := List.drop_of_length_le (by rw [HL.out.1]; exact Nat.le_refl _)
          rw [hd] at hall
          have hall : (o0, bs0) = lall a ([], b) := hall
          obtain ⟨Ab, cb, rfl, hcb, hxb⟩ := hmid.slice
          clear hd hxb
          cases bs0 with
          | nil =>
            have HF := Lib.hid (show LessP a b w (.returned (.tuple #[u6, .bool true])) wr from by
              have hok : lessOk a b = true := by unfold lessOk; rw [HR.out.1, HR.out.2, ← hall]; rfl
              exact ⟨_, o0, by rw [hok], hmid.own, hmid.below, fun _ => by unfold lessL; rw [← hall], fun e => by rw [hok] at e; cases e⟩)
            have t2 : decide (((0 : Nat) : Int) > 0) = false := by simp
            clear hall hmid
            go_wp2
            go_ret2
            exact HF.out
          | cons y bs =>
            have HF := Lib.hid (show LessP a b w (.returned (.tuple #[.slice none 0 0, .bool false])) wr from by
              have hok : lessOk a b = false := by unfold lessOk; rw [HR.out.1, HR.out.2, ← hall]; simp
              exact lessP_not hok hmid.below)
            have t3 : 0 < ((bs.length + 1 : Nat) : Int) := by omega
            rw [List.length_cons]
            clear hall hmid hcb
            generalize bs.length + 1 = q at *
            have t2 : decide ((q : Int) > 0) = true := by simpa using t3
            go_wp2
            go_ret2
            exact HF.out
    · rw [Bool.not_eq_true] at hrb
      rw [hrb] at C2
      have HJ := Lib.hid (show lessOk a b = false by unfold lessOk; rw [hrb]; simp)
      go_wp2_with fail
      refine C2.out.mono ?_
      rintro e w3 ⟨rfl, hb3⟩
      have HW3 := Lib.hid (HW2.out.trans (hb3.mono HW2.out.size))
      clear hb3 C2
      go_wp2
      go_ret2
      exact lessP_not HJ.out HW3.out
  · rw [Bool.not_eq_true] at hra
    rw [hra] at C1
    have HJ := Lib.hid (show lessOk a b = false by unfold lessOk; rw [hra]; rfl)
    go_wp2_with fail
    refine C1.out.mono ?_
    rintro e w2 ⟨rfl, hb2⟩
    have HW2 := Lib.hid hb2
    clear hb2 C1
    go_wp2
    go_ret2
    exact lessP_not HJ.out HW2.out
end Go.Proofs.Ytjeiechkndfhmaa
