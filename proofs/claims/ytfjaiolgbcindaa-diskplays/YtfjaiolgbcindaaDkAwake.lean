/-
  The contract of the law's awake. No conditions.
-/
import Derived.Test.YtfjaiolgbcindaaDkNew
import Derived.Test.YtfjaiolgbcindaaDkNil
import Derived.Test.YtfjaiolgbcindaaSame2
namespace Go.Proofs.Ytfjaiolgbcindaa
open Go.RowKit Arr Dsk

def nine : List Nat := 9 :: List.replicate 31 0
theorem DskQ.bel {g : Nat} {κ : Nat → Nat} {s : St} {v : Value} {w w' : World} {en : Ending} {B : Nat} (h : DskQ g κ s v w en w') (h1 : ∀ k, κ k ≠ 0 → B ≤ k) (h2 : B ≤ w.heap.size) : Below B w w' := h.2.2.below h1 h2
theorem bys_holds {w : World} {g : Nat} {l : List Nat} (h : Holds w g .u8 l) (hb : ∀ x, x ∈ l → x < 256) : Bys w w.heap.size (some ⟨g, 0, none⟩) l :=
  ⟨hb, fun hl => ⟨g, 0, rfl, h.lt hl, fun i hi => by rw [Nat.zero_add]; exact h.cell i hi⟩⟩
theorem byl_holds {w : World} {g : Nat} {l : List Nat} {ok : Nat → Prop} (h : Holds w g .u8 l) (hb : ∀ x, x ∈ l → x < 256) (hk : ok g) : ByL w ok (some ⟨g, 0, none⟩) l :=
  ⟨hb, fun hl => ⟨g, 0, rfl, h.lt hl, hk, fun i hi => by rw [Nat.zero_add]; exact h.cell i hi⟩⟩
theorem zs_bytes (n : Nat) : ∀ x, x ∈ zs n → x < 256 := fun x hx => by have := List.eq_of_mem_replicate hx; omega
theorem mk32 (W : World) : (Instr.makeSlice 32 (.int .i64 32) (.int .i64 32)).run Try.prog W = .ok (.slice (some ⟨W.heap.size, 0, none⟩) 32 32) (W.alloc (.cells (na .u8 (zs 32)) 5)) := mk_bytes 32 (by omega) W

set_option maxRecDepth 10000 in
set_option maxHeartbeats 2000000 in
theorem awake_any (w : World) : Calls Try.prog 5 #[] w fun e w' => e = .returned (.bool true) ∧ Below w.heap.size w w' := by
  have C0 := Lib.hid (new_ok w 2 32 (by decide) (by decide) (by decide) (by decide) (by decide))
  have MK := Lib.hid (fun W => mk32 W)
  go_enter Try.func5, Try.ntmps5
  go_wp2_with fail
  refine C0.out.mono ?_
  rintro en w1 ⟨g, κ, rfl, hd, hlo, hb⟩
  have hmk := MK.out w1
  have HZ := Holds.new w1 5 .u8 (zs 32)
  have c0 := HZ.cell 0 (by decide)
  have f0 := HZ.frozen 0 (by decide)
  have e : ((nv .u8 (zs 32)).set 0 (.int .u8 9)).toArray = na .u8 nine := by rw [show nine = (zs 32).set 0 9 from by decide, na, nv_set]; rfl
  have hb1 := below_alloc w1 (.cells (na .u8 nine) 5)
  have HN := Holds.new w1 5 .u8 nine
  have HB1 := Lib.hid (hb.trans (hb1.mono hb.size))
  have HD1 := Lib.hid (hd.below hb1)
  have hkz : κ w1.heap.size = 0 := by
    by_cases h0 : κ w1.heap.size = 0
    · exact h0
    · have := hd.lt _ h0; omega
  have HX := Lib.hid (byl_holds (ok := fun k => κ k = 0) HN (by decide) hkz)
  have HLO := Lib.hid hlo
  clear hd hlo hb hb1 HN hkz C0
  have EW : (St.new 2 32).write 1 nine = ((St.new 2 32).count.add 1 nine, 0) := rfl
  have C1 := Lib.hid (write_any HD1.out (by decide) 1 (some ⟨w1.heap.size, 0, none⟩) 32 32 nine rfl HX.out)
  rw [EW] at C1
  clear EW
  generalize hs1 : (St.new 2 32).count.add 1 nine = s1 at *
  have HS1 := Lib.hid hs1
  clear hs1
  go_wp2_with fail
  refine C1.out.mono ?_
  rintro en w2 ⟨rfl, κ2, hd2, hT2, hE2⟩
  have HB2 := Lib.hid (HB1.out.trans (hT2.below HLO.out HB1.out.size))
  have X2 := Lib.hid (HX.out.touch (ok' := fun k => κ2 k = 0) hT2 (fun _ e h => h e) (fun b hb e => (hE2 b hb).trans e))
  have HL2 := Lib.hid (show ∀ k, κ2 k ≠ 0 → w.heap.size ≤ k from fun k hk => by
    by_cases hlt : k < (w1.alloc (.cells (na .u8 nine) 5)).heap.size
    · rw [hE2 k hlt] at hk; exact HLO.out k hk
    · have := HB1.out.size; omega)
  have HD2 := Lib.hid hd2
  have C2 := Lib.hid (read_any HD2.out 1 (by rw [← HS1.out]; decide))
  have ER : s1.read 1 = (nine, 0) := by rw [← HS1.out]; rfl
  rw [ER] at C2
  clear ER hd2 hT2 hE2 HB1 HX HLO HD1 C1 c0 f0 hmk e
  generalize w1.heap.size = gn at *
  go_wp2_with fail
  refine C2.out.mono ?_
  rintro en w3 hr3
  obtain ⟨A3, c3, rfl, _, _, hb3, hN3, hB3⟩ := hr3.len (n := 32) rfl
  have HD3 := Lib.hid (HD2.out.below hB3)
  have hz3 : ∀ b, w2.heap.size ≤ b → b < w3.heap.size → κ2 b = 0 := fun b h1 _ => by
    by_cases h0 : κ2 b = 0
    · exact h0
    · have := HD2.out.lt b h0; omega
  have Y3 := Lib.hid (hb3.apart (ok := fun b => κ2 b = 0) hN3 hz3)
  have X3 := Lib.hid (X2.out.touch (F := fun _ => False) (ok' := fun b => κ2 b = 0) (Touch.of _ hB3) (fun _ _ h => h) (fun _ _ h => h))
  have HB3 := Lib.hid (HB2.out.trans (hB3.mono HB2.out.size))
  have C3 := Lib.hid (crash_any HD3.out none 0 0 [] rfl (Bls.nil _ _ _) (by rw [← HS1.out]; decide))
  clear hr3 hb3 hB3 hN3 hz3 HD2 HB2 C2 X2
  go_wp2_with fail
  refine C3.out.mono ?_
  rintro en w4 ⟨rfl, hd4, hT4⟩
  have HB4 := Lib.hid (HB3.out.trans (hT4.below HL2.out HB3.out.size))
  have HD4 := Lib.hid hd4
  have C4 := Lib.hid (power_any HD4.out)
  have Y4 := Lib.hid (Y3.out.touch (ok' := fun b => κ2 b = 0) hT4 (fun _ e h => h e) (fun _ _ e => e))
  have X4 := Lib.hid (X3.out.touch (ok' := fun b => κ2 b = 0) hT4 (fun _ e h => h e) (fun _ _ e => e))
  clear hd4 hT4 C3 HD3 X3 Y3 HB3
  go_wp2_with fail
  refine C4.out.mono ?_
  rintro en w5 ⟨rfl, hd5, hT5⟩
  have HB5 := Lib.hid (HB4.out.trans (hT5.below HL2.out HB4.out.size))
  have HD5 := Lib.hid hd5
  have C5 := Lib.hid (read_any HD5.out 1 (by rw [← HS1.out]; decide))
  have ER : (s1.crash []).power.read 1 = (zs 32, 0) := by rw [← HS1.out]; rfl
  rw [ER] at C5
  have Y5 := Lib.hid (Y4.out.touch (ok' := fun b => κ2 b = 0) hT5 (fun _ e h => h e) (fun _ _ e => e))
  have X5 := Lib.hid (X4.out.touch (ok' := fun b => κ2 b = 0) hT5 (fun _ e h => h e) (fun _ _ e => e))
  clear hd5 hT5 C4 HD4 X4 Y4 HB4 ER
  go_wp2_with fail
  refine C5.out.mono ?_
  rintro en w6 hr6
  obtain ⟨A6, c6, rfl, _, _, hb6, _, hB6⟩ := hr6.len (n := 32) rfl
  have Y6 := Lib.hid (Y5.out.bys.below hB6)
  have X6 := Lib.hid (X5.out.bys.below hB6)
  have HB6 := Lib.hid (HB5.out.trans (hB6.mono HB5.out.size))
  have Z6 := Lib.hid hb6
  clear hr6 hb6 hB6 HB5 X5 Y5 HD5 C5
  have C6 := Lib.hid (same_any2 A3 (some ⟨gn, 0, none⟩) nine nine 32 32 c3 32 w6 rfl rfl (by omega) _ _ Y6.out X6.out)
  rw [show decide (nine = nine) = true from rfl] at C6
  go_wp2_with fail
  refine C6.out.mono ?_
  rintro en w7 ⟨m, rfl, rfl⟩
  have hmk := MK.out (w6.drewN m)
  have HZ := Holds.new (w6.drewN m) 5 .u8 (zs 32)
  have hb7 := below_alloc (w6.drewN m) (.cells (na .u8 (zs 32)) 5)
  have C7 := Lib.hid (same_any2 A6 (some ⟨(w6.drewN m).heap.size, 0, none⟩) (zs 32) (zs 32) 32 32 c6 32 _ rfl rfl (by omega) _ _ ((Z6.out.drewN m).below hb7) (bys_holds HZ (zs_bytes 32)))
  rw [show decide (zs 32 = zs 32) = true from rfl] at C7
  have HB7 := Lib.hid ((below_drewN HB6.out m).trans (hb7.mono (below_drewN HB6.out m).size))
  clear HZ hb7 C6
  go_wp2_with fail
  refine C7.out.mono ?_
  rintro en w8 ⟨m', rfl, rfl⟩
  clear hmk
  go_wp2
  go_ret
  exact ⟨rfl, below_drewN HB7.out m'⟩
end Go.Proofs.Ytfjaiolgbcindaa
