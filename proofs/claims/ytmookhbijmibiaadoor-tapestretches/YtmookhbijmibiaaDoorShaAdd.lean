/-
  The contract of (*sha.running).add: bytes are worked in, piece by piece. Conditions: the block holds a sum on its way, the bytes lie beside it, the tables stand in their variables.
-/
import Derived.Test.YtmookhbijmibiaaDoorShaWork
import Derived.Test.YtmookhbijmibiaaDoorShaRun
namespace Go.Proofs.YtmookhbijmibiaaDoor
open Go.RowKit Arr Sh

/-- How many elements a slice has. -/
def lenV : Value → Nat
  | .slice _ n _ => n
  | _ => 0
/-- Block g holds a sum on its way: that of text m. -/
structure Rn (w : World) (g : Nat) (R m : List Nat) : Prop where
  held : Held R m
  nums : HAt w g 0 .u32 (now m).l
  rest : HAt w g 8 .u8 R
  cnt : w.cell? ⟨g, 72, none⟩ = some (.int .i64 ((m.length % 64 : Nat) : Int))
  fre : w.frozen? ⟨g, 72, none⟩ = false
/-- What stands in variables, and is read. -/
structure Vars (w : World) : Prop where
  tab : Tab w 1
  kinds : Tab32 w 2 K
theorem Vars.only {w w' : World} {g : Nat} (h : Vars w) (ho : Only g w w') (h1 : 1 ≠ g) (h2 : 2 ≠ g) : Vars w' := ⟨h.tab.only ho h1, h.kinds.only ho (by rw [length_K]; omega) h2⟩
theorem Vars.drewN {w : World} (h : Vars w) (n : Nat) : Vars (w.drewN n) := ⟨h.tab, h.kinds⟩
theorem Rn.drewN {w : World} {g : Nat} {R m : List Nat} (h : Rn w g R m) (n : Nat) : Rn (w.drewN n) g R m := ⟨h.held, h.nums, h.rest, h.cnt, h.fre⟩
theorem size_byte : (Tryd.prog.info? 5).map (·.size) = some 1 := by kernel_rfl
/-- A slice is cut at its head: the run. -/
theorem cut_run (b off n c k : Nat) (hk : k ≤ n) (W : World) :
    (Instr.slice 22 (.slice (some ⟨b, off, none⟩) n c) (some (.int .i64 (k : Int))) none none).run Tryd.prog W = .ok (.slice (some ⟨b, if c = k then off else off + k, none⟩) (n - k) (c - k)) W := by
  have hu : Tryd.prog.underlying 22 = some (.slice (Tryd.prog.elem 22)) := by
    have := Tryd.underlying22
    simp only [Program.elem, this]
  have he : Tryd.prog.elem 22 = 5 := by have := Tryd.underlying22; simp only [Program.elem, this]
  rw [run_slice_l W 22 _ n c hu .i64 (k : Int) (by omega) (by omega), he]
  have hsz := o64b.size W
  rw [o64b.elem] at hsz
  rw [hsz]
  simp only [Result.andThen_ok, sliced, Int.toNat_natCast, Nat.mul_one]
  by_cases hc : c = k
  · simp [hc]
  · simp [hc, add_nat]

set_option maxHeartbeats 800000 in
set_option maxRecDepth 10000 in
theorem add_any (R m bs : List Nat) (g : Nat) (A : Option Addr) (n c : Nat) (hn : bs.length = n) (hc : n ≤ c) (w : World) (hr : Rn w g R m) (hb : BysN w g A bs) (hv : Vars w) (h1 : 1 ≠ g) (h2 : 2 ≠ g) :
    Calls Tryd.prog 19 #[.pointer (some ⟨g, 0, none⟩), .slice A n c] w fun e w' => e = .returned (.tuple #[]) ∧ (∃ R', Rn w' g R' (m ++ bs)) ∧ Only g w w' := by
  have HN := Lib.hid hn
  have HR := Lib.hid hr
  have HB := Lib.hid hb
  have HV := Lib.hid hv
  clear hn hr hb hv
  go_enter Tryd.func19, Tryd.ntmps19
  go_wp2_with fail
  go_loopw [1] (fun v wr => ∃ (j : Nat) (B : Option Addr) (d : Nat) (Q : List Nat), j ≤ n ∧ v = .slice B (n - j) d ∧ n - j ≤ d ∧ BysN wr g B (bs.drop j) ∧ Rn wr g Q (m ++ bs.take j) ∧ Only g w wr) (fun v _ => lenV v)
  case atStart => exact ⟨0, A, c, R, by omega, rfl, hc, HB.out, by simpa using HR.out, Only.refl _ _⟩
  case round =>
    clear HR HB
    obtain ⟨j, B, d, Q, hj, rfl, hd, hb, hr, ho⟩ := hrel
    have HR := Lib.hid hr
    have HB := Lib.hid hb
    have HO := Lib.hid ho
    have HV2 := Lib.hid (HV.out.only ho h1 h2)
    clear hr hb ho
    obtain ⟨r, er⟩ : ∃ r, r = n - j := ⟨_, rfl⟩
    rw [← er] at hd ⊢
    by_cases hlt : 0 < r
    · have hDl : (bs.drop j).length = r := by rw [List.length_drop, HN.out, er]
      obtain ⟨b, off, rfl, hbw, hbg, hcs⟩ := HB.out.2 (by omega)
      obtain ⟨k, ek⟩ : ∃ k, k = min r (64 - (m ++ bs.take j).length % 64) := ⟨_, rfl⟩
      have hk1 : k ≤ r := by omega
      have hk0 : 0 < k := by omega
      have hkn : j + k ≤ n := by omega
      have F1 : m ++ bs.take j ++ (bs.drop j).take k = m ++ bs.take (j + k) := by rw [List.append_assoc, List.take_add]
      have F2 : (bs.drop j).drop k = bs.drop (j + k) := by rw [List.drop_drop]
      have xl : ((bs.drop j).take k).length = k := by rw [List.length_take, hDl]; omega
      have xb : ∀ y, y ∈ (bs.drop j).take k → y < 256 := fun y hy => HB.out.1 y (List.mem_of_mem_take hy)
      have xc : ∀ i, i < k → wr.cell? ⟨b, off + i, none⟩ = some (.int .u8 ((((bs.drop j).take k).getD i 0 : Nat) : Int)) := fun i hi => by
        rw [hcs i (by omega)]
        simp [hi]
      have BD := HB.out.drop k
      rw [F2] at BD
      have FJ := Lib.hid F1
      have XB := Lib.hid xb
      have XC := Lib.hid xc
      have XL := Lib.hid xl
      have hle : n - (j + k) = r - k := by omega
      have HLE := Lib.hid hle
      have EK := Lib.hid ek
      have BDh := Lib.hid BD
      have hju : j + k ≤ n := hkn
      clear F1 F2 xb xc xl BD hcs HB hle ek er hDl
      generalize (bs.drop j).take k = x at *
      generalize m ++ bs.take j = M at *
      have hh : M.length % 64 < 64 := Nat.mod_lt _ (by omega)
      have ek := EK.out
      have ti : decide ((r : Int) > 0) = true := by simp; omega
      have ti2 : decide (0 < (r : Int)) = true := by simp; omega
      have hsl : ∀ W : World, (Instr.sliceAt 49 (.pointer (some ⟨g, 8, none⟩)) (some (.int .i64 ((M.length % 64 : Nat) : Int))) none none).run Tryd.prog W = .ok (.slice (some ⟨g, 8 + M.length % 64, none⟩) (64 - M.length % 64) (64 - M.length % 64)) W := fun W => sliceL o64b W g 8 .i64 _ _ rfl hh
      obtain ⟨h, eh⟩ : ∃ h, h = M.length % 64 := ⟨_, rfl⟩
      rw [← eh] at hsl hh ek
      have c72 : wr.cell? ⟨g, 72, none⟩ = some (.int .i64 (h : Int)) := by rw [eh]; exact HR.out.cnt
      have EH := Lib.hid eh
      have EK2 := Lib.hid ek
      clear eh EK ek
      go_wp2_with fail
      refine region_quiet_tail 9 (by kernel_rfl) (by kernel_rfl) ?_
      simp only [List.take_succ_cons, List.take_zero, List.drop_succ_cons, List.drop_zero]
      repeat (go_big_quiet_step (fail))
      refine wpQuiet_nil ?_
      intro wd hwd
      have G1 : Rn wd g Q M := by obtain ⟨n, rfl⟩ := hwd; exact HR.out.drewN n
      have G2 : Only g w wd := by obtain ⟨n, rfl⟩ := hwd; exact HO.out.drewN n
      have G3 : Vars wd := by obtain ⟨n, rfl⟩ := hwd; exact HV2.out.drewN n
      have G4 : BysN wd g (some ⟨b, off + k, none⟩) (bs.drop (j + k)) := by obtain ⟨n, rfl⟩ := hwd; exact BDh.out
      have G5 : ∀ i, i < k → wd.cell? ⟨b, off + i, none⟩ = some (.int .u8 ((x.getD i 0 : Nat) : Int)) := by obtain ⟨n, rfl⟩ := hwd; exact XC.out
      clear hwd HR HO HV2 BDh XC c72 hsl
      have hxl := XL.out
      have ek := EK2.out
      have HP : HAt wd g (8 + h) .u8 ((Q.drop h).take (64 - h)) := G1.rest.part h (64 - h) (by rw [G1.held.1]; omega)
      have CR := run_copy_bytes (P := Tryd.prog) wd 22 22 3 5 Tryd.underlying22 size_byte g (8 + h) (64 - h) (64 - h) b off r d _ x HP (by rw [hxl]; exact ek) (by rw [List.length_take, List.length_drop, G1.held.1]; omega) (by rw [hxl]; exact G5)
      rw [hxl] at CR
      have N0 : HAt (wd.setCells g (8 + h) (nv .u8 x)) g 0 .u32 (now M).l := G1.nums.apart _ _ _ (by rw [length_nv, length_l]; omega)
      have N1 : HAt (wd.setCells g (8 + h) (nv .u8 x)) g 8 .u8 (spl Q h x) := G1.rest.spliced h x (by rw [hxl, G1.held.1]; omega)
      have N2 : (wd.setCells g (8 + h) (nv .u8 x)).cell? ⟨g, 72, none⟩ = some (.int .i64 (h : Int)) := by
        rw [World.cell?_setCells_out g (nv .u8 x) (8 + h) wd ⟨g, 72, none⟩ (fun _ _ => by rw [length_nv, hxl]; right; show 8 + h + k ≤ 72; omega), G1.cnt, ← EH.out]
      have N3 : (wd.setCells g (8 + h) (nv .u8 x)).frozen? ⟨g, 72, none⟩ = false := by rw [World.frozen?_setCells]; exact G1.fre
      have N4 : Only g w (wd.setCells g (8 + h) (nv .u8 x)) := G2.setCells _ _
      have N5 : Only g wd (wd.setCells g (8 + h) (nv .u8 x)) := (Only.refl g wd).setCells _ _
      have N6 := G4.only N5
      have N7 := G3.only N5 h1 h2
      have CR' : (Builtin.copy_ #[22, 22] 3 #[.slice (some ⟨g, 8 + h, none⟩) (64 - h) (64 - h), .slice (some ⟨b, off, none⟩) r d]).run Tryd.prog wd = .ok (.int .i64 (k : Int)) (wd.setCells g (8 + h) (nv .u8 x)) := CR
      have HLD := Lib.hid G1.held
      have CP := Lib.hid CR'
      clear CR CR' HP G1 G2 G3 G4 G5 N5
      generalize wd.setCells g (8 + h) (nv .u8 x) = wc at *
      have hsk := cut_run b off r d k hk1
      have ew : (h : Int) + (k : Int) = ((h + k : Nat) : Int) := by omega
      have X0 := N0.beside ⟨g, 72, none⟩ (.int .i64 ((h : Int) + (k : Int))) (by right; right; rw [length_l]; show 0 + 8 ≤ 72; omega)
      have X1 := N1.beside ⟨g, 72, none⟩ (.int .i64 ((h : Int) + (k : Int))) (by right; right; rw [length_spl _ _ _ (by rw [hxl, HLD.out.1]; omega), HLD.out.1]; show 8 + 64 ≤ 72; omega)
      have X2 : (wc.setCell ⟨g, 72, none⟩ (.int .i64 ((h : Int) + (k : Int)))).cell? ⟨g, 72, none⟩ = some (.int .i64 ((h : Int) + (k : Int))) := World.cell?_setCell_same _ _ _ N2
      have X3 : (wc.setCell ⟨g, 72, none⟩ (.int .i64 ((h : Int) + (k : Int)))).frozen? ⟨g, 72, none⟩ = false := by rw [World.frozen?_setCell]; exact N3
      have X4 := N4.setCell 72 (.int .i64 ((h : Int) + (k : Int)))
      have X5 := (Only.refl g wc).setCell 72 (.int .i64 ((h : Int) + (k : Int)))
      have X6 := N6.only X5
      have X7 := N7.only X5 h1 h2
      have hd2 : r - k ≤ d - k := by omega
      have X8 : BysN (wc.setCell ⟨g, 72, none⟩ (.int .i64 ((h : Int) + (k : Int)))) g (some ⟨b, if d = k then off else off + k, none⟩) (bs.drop (j + k)) := by
        by_cases hdk : d = k
        · refine ⟨X6.1, fun hp => ?_⟩
          exfalso
          have := HLE.out
          have h0 : (bs.drop (j + k)).length = r - k := by rw [List.length_drop, HN.out]; exact HLE.out
          omega
        · rw [if_neg hdk]; exact X6
      have N2h := N2
      have Y0 := Lib.hid X0
      have Y1 := Lib.hid X1
      have Y3 := Lib.hid X3
      have Y4 := Lib.hid X4
      have Y7 := Lib.hid X7
      have Y8 := Lib.hid X8
      clear N0 N1 N4 N6 N7 X0 X1 X3 X4 X5 X6 X7 X8 ew
      have hk64 : h + k ≤ 64 := by omega
      generalize (if d = k then off else off + k) = off' at *
      clear ek EK2 N2h hxl
      by_cases hf : h + k = 64
      · have hfull := held_full Q M x HLD.out XB.out (by rw [← EH.out, XL.out]; exact hf)
        rw [← EH.out] at hfull
        obtain ⟨f1, f2, f3, f4, f5⟩ := hfull
        have tf : ((h : Int) + (k : Int) == 64) = true := by simp; omega
        have F3 := Lib.hid f3
        have F4 := Lib.hid f4
        have F5 := Lib.hid f5
        have WK := Lib.hid (work_any (now M) (now_ok M) (spl Q h x) f1 f2 g _ Y0.out Y1.out Y7.out.tab Y7.out.kinds h2)
        clear f1 f2 f3 f4 f5 hf
        go_wp2_with (first | (with_reducible refine Arr.list_copy (.slice (some ⟨g, 8 + h, none⟩) (64 - h) (64 - h)) (.slice (some ⟨b, off, none⟩) r d) (.int .i64 (k : Int)) wc rfl rfl CP.out ?_) | fail)
        refine WK.out.mono ?_
        rintro e w5 ⟨rfl, hH, hO, hK⟩
        have c5 : w5.cell? ⟨g, 72, none⟩ = some (.int .i64 ((h : Int) + (k : Int))) := ((hK 72 (by omega)).1).trans X2
        have f5 : w5.frozen? ⟨g, 72, none⟩ = false := ((hK 72 (by omega)).2).trans Y3.out
        have r5 : HAt w5 g 8 .u8 (spl Q h x) := ⟨fun i v hv => ((hK (8 + i) (by omega)).1).trans (Y1.out.1 i v hv), fun i hi => by rw [(hK (8 + i) (by omega)).1, (hK (8 + i) (by omega)).2]; exact Y1.out.2 i hi⟩
        rw [F4.out] at hH
        have Z0 := Lib.hid (hH.beside ⟨g, 72, none⟩ (.int .i64 0) (by right; right; rw [length_l]; show 0 + 8 ≤ 72; omega))
        have Z1 := Lib.hid (r5.beside ⟨g, 72, none⟩ (.int .i64 0) (by right; right; rw [F5.out.1]; show 8 + 64 ≤ 72; omega))
        have Z2 : Go.RowKit.Hid ((w5.setCell ⟨g, 72, none⟩ (.int .i64 0)).cell? ⟨g, 72, none⟩ = some (.int .i64 0)) := Lib.hid (World.cell?_setCell_same _ _ _ c5)
        have Z3 : Go.RowKit.Hid ((w5.setCell ⟨g, 72, none⟩ (.int .i64 0)).frozen? ⟨g, 72, none⟩ = false) := Lib.hid (by rw [World.frozen?_setCell]; exact f5)
        have Z4 := Lib.hid ((Y4.out.trans hO).setCell 72 (.int .i64 0))
        have Z5 := Lib.hid (Y8.out.only (hO.setCell 72 (.int .i64 0)))
        clear hH hO hK r5 WK Y0 Y1 Y3 Y4 Y7 Y8 X2
        go_wp2
        go_roundw
        case rel =>
          refine ⟨j + k, some ⟨b, off', none⟩, d - k, spl Q h x, hju, by rw [HLE.out], by rw [HLE.out]; exact hd2, Z5.out, ?_, Z4.out⟩
          rw [← FJ.out]
          exact ⟨F5.out, Z0.out, Z1.out, by rw [F3.out]; exact Z2.out, Z3.out⟩
        case measure => simp [lenV]; omega
      · have hmore := held_more Q M x HLD.out XB.out (by rw [← EH.out, XL.out]; omega)
        rw [← EH.out] at hmore
        obtain ⟨f1, f2, f3⟩ := hmore
        have tf : ((h : Int) + (k : Int) == 64) = false := by simp; omega
        have F1 := Lib.hid f1
        have F2 := Lib.hid f2
        have F3 := Lib.hid f3
        clear f1 f2 f3 hf
        go_wp2_with (first | (with_reducible refine Arr.list_copy (.slice (some ⟨g, 8 + h, none⟩) (64 - h) (64 - h)) (.slice (some ⟨b, off, none⟩) r d) (.int .i64 (k : Int)) wc rfl rfl CP.out ?_) | fail)
        go_roundw
        case rel =>
          refine ⟨j + k, some ⟨b, off', none⟩, d - k, spl Q h x, hju, by rw [HLE.out], by rw [HLE.out]; exact hd2, Y8.out, ?_, Y4.out⟩
          rw [← FJ.out]
          exact ⟨F1.out, by rw [F3.out]; exact Y0.out, Y1.out, by rw [F2.out, XL.out, X2]; norm_cast, Y3.out⟩
        case measure => simp [lenV]; omega
    · obtain rfl : r = 0 := by omega
      have e1 : bs.take j = bs := List.take_of_length_le (by have := HN.out; omega)
      rw [e1] at HR
      go_wp2
      go_end0
      exact ⟨rfl, ⟨Q, HR.out⟩, HO.out⟩
end Go.Proofs.YtmookhbijmibiaaDoor
