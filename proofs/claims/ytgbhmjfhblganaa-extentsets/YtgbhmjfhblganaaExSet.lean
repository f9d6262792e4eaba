/-
  The contract of the reference's Set. Condition: the slice holds its numbers.
-/
import Derived.Test.YtgbhmjfhblganaaExInts
import Derived.Test.YtgbhmjfhblganaaExRise
import Derived.Test.YtgbhmjfhblganaaAesStill
namespace Go.Proofs.Ytgbhmjfhblganaa
open Go.RowKit Arr Ex

/-- The set of those numbers that are below a bound. -/
def setL (zs : List Int) : Nat → List (Int × Int)
  | 0 => []
  | k + 1 => if (k : Int) ∈ zs then stp (setL zs k) ((k : Int), 1) else setL zs k
theorem setL_spec (zs : List Int) : ∀ k : Nat, k ≤ 1048576 → Ex.Grow (setL zs k) k ∧ (∀ u, Mem u (setL zs k) ↔ u ∈ zs ∧ 0 ≤ u ∧ u < k) ∧ (setL zs k).length ≤ k
  | 0, _ => ⟨Grow.nil _, fun u => ⟨fun h => absurd h (mem_nil u), fun ⟨_, h1, h2⟩ => by omega⟩, Nat.le_refl _⟩
  | k + 1, hk => by
    obtain ⟨h1, h2, h3⟩ := setL_spec zs k (by omega)
    unfold setL
    split
    · rename_i hm
      obtain ⟨g1, g2, _⟩ := stp_grow h1 ((k : Int), 1) ((may_iff _).2 ⟨by dsimp only; omega, by dsimp only; omega, by dsimp only; omega⟩) (Int.le_refl _)
      refine ⟨g1.later (by dsimp only; omega), fun u => ?_, Nat.le_trans (length_stp _ _) (by omega)⟩
      rw [g2, h2]
      show (u ∈ zs ∧ 0 ≤ u ∧ u < (k : Int)) ∨ ((k : Int) ≤ u ∧ u < (k : Int) + 1) ↔ u ∈ zs ∧ 0 ≤ u ∧ u < ((k + 1 : Nat) : Int)
      constructor
      · rintro (⟨q, r⟩ | q)
        · exact ⟨q, by omega⟩
        · obtain rfl : u = (k : Int) := by omega
          exact ⟨hm, by omega⟩
      · rintro ⟨q, r⟩
        by_cases hu : u < (k : Int)
        · exact .inl ⟨q, by omega⟩
        · exact .inr (by omega)
    · rename_i hm
      refine ⟨h1.later (by omega), fun u => ?_, by omega⟩
      rw [h2]
      constructor
      · rintro ⟨q, r⟩; exact ⟨q, by omega⟩
      · rintro ⟨q, r⟩
        refine ⟨q, r.1, ?_⟩
        apply Classical.byContradiction
        intro hu
        obtain rfl : u = (k : Int) := by omega
        exact hm q
theorem stp_one (x : Int × Int) : stp [] x = [] ++ [x] := rfl
theorem stp_eq' {ini : List (Int × Int)} {y x : Int × Int} (h : y.1 + y.2 = x.1) : stp (ini ++ [y]) x = ini ++ [(y.1, y.2 + x.2)] := by
  unfold stp; rw [List.getLast?_append, List.getLast?_singleton]; simp [h]
theorem stp_ne' {ini : List (Int × Int)} {y x : Int × Int} (h : ¬ y.1 + y.2 = x.1) : stp (ini ++ [y]) x = ini ++ [y] ++ [x] := by
  unfold stp; rw [List.getLast?_append, List.getLast?_singleton]; simp [h]
/-- The last one stored anew. -/
theorem Own2.anew {w : World} {base : Nat} {ini : List (Int × Int)} {y : Int × Int} {g c n : Nat} (h : Own2 w base (.slice (some ⟨g, 0, none⟩) n c) (ini ++ [y])) (hn : n = ini.length + 1) (p q : Int) :
    Own2 ((w.setCell ⟨g, ini.length * 2, none⟩ (.int .i64 p)).setCell ⟨g, ini.length * 2 + 1, none⟩ (.int .i64 q)) base (.slice (some ⟨g, 0, none⟩) n c) (ini ++ [(p, q)]) := by
  have hl : (ini ++ [y]).length = n := by simp [hn]
  have hl' : (ini ++ [(p, q)]).length = n := by simp [hn]
  unfold Own2 at h ⊢
  rw [hl] at h
  rw [hl']
  have h1 := (World.ownsRow.stored h (ini.length * 2) (.int .i64 p)).1
  have h2 := (World.ownsRow.stored h1 (ini.length * 2 + 1) (.int .i64 q)).1
  have e : ((cs2 (ini ++ [y])).set (ini.length * 2) (.int .i64 p)).set (ini.length * 2 + 1) (.int .i64 q) = cs2 (ini ++ [(p, q)]) := by
    rw [cs2_append, cs2_append, List.set_append_right _ _ (by rw [length_cs2]; omega), length_cs2, List.set_append_right _ _ (by rw [length_cs2]; omega), length_cs2]
    rw [show ini.length * 2 - ini.length * 2 = 0 by omega, show ini.length * 2 + 1 - ini.length * 2 = 1 by omega]
    rfl
  rwa [e] at h2
set_option maxHeartbeats 4000000 in
theorem rset_any (w : World) (A : Option Addr) (n c : Nat) (zs : List Int) (hl : zs.length = n) (hn : n ≤ 1000000) (h : IntsI w w.heap.size A zs) (b : Nat) (hb : b ≤ 1000) :
    Calls Try.prog 17 #[.slice A n c, .int .i64 (b : Int)] w (Made (setL zs b) w) := by
  have mixed : Try.prog.follows .mixedOrders = true := by kernel_rfl
  have HI := Lib.hid h
  have HL := Lib.hid hl
  clear h hl
  go_enter Try.func17, Try.ntmps17
  go_wp2
  go_loopw [5, 6] (fun v i wr => ∃ (k : Nat) (V : Value) (Ws : World), Ws = wr ∧ V = v ∧ k ≤ b ∧ i = .int .i64 k ∧ Own2 wr w.heap.size V (setL zs k) ∧ Below w.heap.size w wr) (fun _ i _ => b - (intOf i).toNat)
  case atStart => exact ⟨0, _, _, rfl, rfl, Nat.zero_le _, rfl, own2_nil _ _, Below.refl _ _⟩
  case round =>
    obtain ⟨k, V, wr, rfl, rfl, hk, rfl, hown, hB⟩ := hrel
    have HO := Lib.hid hown
    have HB := Lib.hid hB
    by_cases hlt : k < b
    · have t1 : decide ((k : Int) < (b : Int)) = true := by simp; omega
      have wk : IntKind.i64.wrap ((k : Int) + 1) = (k : Int) + 1 := by rw [IntKind.wrap_i64]; omega
      have CI := Lib.hid (rin_any wr A n c _ zs HL.out hn (HI.out.below hB) (k : Int))
      obtain ⟨hgr, _, hlen⟩ := setL_spec zs k (by omega)
      have HEX := Lib.hid (show setL zs (k + 1) = if (k : Int) ∈ zs then stp (setL zs k) ((k : Int), 1) else setL zs k from rfl)
      clear hB
      generalize hacc : setL zs k = acc at *
      clear hacc
      by_cases hin : (k : Int) ∈ zs
      · rw [show decide ((k : Int) ∈ zs) = true by simpa using hin] at CI
        have HST := Lib.hid (show setL zs (k + 1) = stp acc ((k : Int), 1) by rw [HEX.out, if_pos hin])
        clear HEX hin
        go_wp2_with fail
        refine CI.out.mono ?_
        rintro e w1 ⟨rfl, rfl⟩
        rcases List.eq_nil_or_concat acc with rfl | ⟨ini, z, rfl⟩
        · obtain ⟨Av, cv, rfl, _, _, _, _⟩ := hown.shape
          have HXS := Lib.hid (show setL zs (k + 1) = [] ++ [((k : Int), 1)] by rw [HST.out]; rfl)
          have t2 : decide (((0 : Nat) : Int) > 0) = false := by simp
          have e0 : ([] : List (Int × Int)).length = 0 := rfl
          rw [e0]
          clear hown hgr HST
          go_wp2_with fail
          go_quiet (fail)
          have HO7 := Lib.hid (HO.out.drewN nq)
          have HB7 := Lib.hid (below_drewN HB.out nq)
          clear HO HB
          generalize w1.drewN nq = wd at *
          have HXD := Lib.hid (exts_lit wd ((k : Int), 1) (by unfold I64; dsimp only; omega))
          have HOD := Lib.hid (HO7.out.alloc (.cells #[.int .i64 (k : Int), .int .i64 1] 42))
          have HBD := Lib.hid (HB7.out.alloc HB7.out.size (.cells #[.int .i64 (k : Int), .int .i64 1] 42))
          go_wp2_with (at_builtin; refine append_exts rfl (.tmp 56) (.tmp 59) rfl w.heap.size _ [] rfl HOD.out (some ⟨wd.heap.size, 0, none⟩) 1 1 [((k : Int), 1)] rfl (fun h => by cases h) rfl (by simpa using HXD.out) (by simp) HBD.out.size ?_; intro v' w7 hown' hbel' _ _)
          rw [← HXS.out] at hown'
          go_roundw
          case rel => exact ⟨k + 1, _, _, rfl, rfl, by omega, by go_num, hown', HBD.out.trans hbel'⟩
          case measure => simp [intOf]; omega
        · rw [List.concat_eq_append] at *
          obtain ⟨z1, z2⟩ := z
          have hmz := (may_iff _).1 (hgr.may (z1, z2) (by simp))
          have hlow := hgr.low (z1, z2) (by simp)
          dsimp only at hmz hlow
          obtain ⟨g, cv, rfl, hg5, hglt⟩ := World.ownsRow.form hown (by simp)
          have hLn : (ini ++ [(z1, z2)]).length = ini.length + 1 := by simp
          have hown' : w1.ownsRow w.heap.size 42 2 (.slice (some ⟨g, 0, none⟩) (ini ++ [(z1, z2)]).length cv) (ini ++ [(z1, z2)]).length (cs2 (ini ++ [(z1, z2)])) := hown
          have e0 := World.ownsRow.cellAt hown' (ini.length * 2) (by omega)
          have e1 := World.ownsRow.cellAt hown' (ini.length * 2 + 1) (by omega)
          obtain ⟨k0, k1⟩ := cs2_get (ini ++ [(z1, z2)]) ini.length (by omega)
          rw [k0, List.getElem_concat_length rfl] at e0
          rw [k1, List.getElem_concat_length rfl] at e1
          have f0 := World.ownsRow.frozenAt hown' (ini.length * 2)
          have f1 := World.ownsRow.frozenAt hown' (ini.length * 2 + 1)
          dsimp only at e0 e1
          clear k0 k1 hown' hgr hown
          have HEQ := Lib.hid hLn
          have hlen2 : ini.length + 1 ≤ 1000 := by omega
          have HOX := Lib.hid HO.out
          rw [hLn] at HOX ⊢
          generalize hL : ini.length + 1 = L at *
          have HLL := Lib.hid hL
          generalize hM : ini.length = M at *
          have HM := Lib.hid hM
          have wl : IntKind.i64.wrap ((L : Int) - 1) = (M : Int) := by rw [IntKind.wrap_i64]; omega
          have p0 : decide ((L : Int) > 0) = true := by simp; omega
          have p2 : 0 < L := by omega
          have p1 : (M : Int) < (L : Int) := by omega
          have wz : IntKind.i64.wrap (z1 + z2) = z1 + z2 := wrap_in (by omega) (by omega)
          have wz1 : IntKind.i64.wrap (z2 + 1) = z2 + 1 := wrap_in (by omega) (by omega)
          clear hL hM hLn HO hlen
          by_cases hxz : z1 + z2 = (k : Int)
          · have t2 : decide (z1 + z2 = (k : Int)) = true := by simpa using hxz
            have HXS := Lib.hid (show setL zs (k + 1) = ini ++ [(z1, z2 + 1)] by rw [HST.out]; exact stp_eq' hxz)
            go_wp2_with fail
            go_quiet (fail)
            have d0 : (w1.drewN nq).cell? ⟨g, M * 2, none⟩ = some (.int .i64 z1) := e0
            have d1 : (w1.drewN nq).cell? ⟨g, M * 2 + 1, none⟩ = some (.int .i64 z2) := e1
            have d2 : (w1.drewN nq).frozen? ⟨g, M * 2, none⟩ = false := f0
            have d3 : (w1.drewN nq).frozen? ⟨g, M * 2 + 1, none⟩ = false := f1
            have HO7 := Lib.hid (HOX.out.drewN nq)
            have HB7 := Lib.hid (below_drewN HB.out nq)
            clear e0 e1 f0 f1 HOX HB
            generalize w1.drewN nq = wd at *
            go_wp2_with fail
            refine region_tail 17 (by kernel_rfl) (by kernel_rfl) ?_
            intro we hwe
            have e0 : we.cell? ⟨g, M * 2, none⟩ = some (.int .i64 z1) := by rw [hwe]; exact d0
            have e1 : we.cell? ⟨g, M * 2 + 1, none⟩ = some (.int .i64 z2) := by rw [hwe]; exact d1
            have f0 : we.frozen? ⟨g, M * 2, none⟩ = false := by rw [hwe]; exact d2
            have f1 : we.frozen? ⟨g, M * 2 + 1, none⟩ = false := by rw [hwe]; exact d3
            have HOE := Lib.hid (show Own2 we w.heap.size (.slice (some ⟨g, 0, none⟩) L cv) (ini ++ [(z1, z2)]) by rw [hwe]; exact HO7.out)
            have HBE := Lib.hid (show Below w.heap.size w we by rw [hwe]; exact HB7.out.drew)
            clear hwe d0 d1 d2 d3 HO7 HB7
            have X1 := HOE.out.anew (by rw [HM.out, HLL.out]) z1 (z2 + 1)
            rw [HM.out, ← HXS.out] at X1
            have HX1 := Lib.hid X1
            have HX2 := Lib.hid ((HBE.out.setCell (p := ⟨g, M * 2, none⟩) hg5 (.int .i64 z1)).setCell (p := ⟨g, M * 2 + 1, none⟩) hg5 (.int .i64 (z2 + 1)))
            clear X1
            simp only [List.take_succ_cons, List.take_zero, List.drop_succ_cons, List.drop_zero]
            repeat still_step
            refine wpStill_nil ?_
            go_wp2
            go_roundw
            case rel => exact ⟨k + 1, _, _, rfl, rfl, by omega, by go_num, HX1.out, HX2.out⟩
            case measure => simp [intOf]; omega
          · have t2 : decide (z1 + z2 = (k : Int)) = false := by simpa using hxz
            have HXS := Lib.hid (show setL zs (k + 1) = ini ++ [(z1, z2)] ++ [((k : Int), 1)] by rw [HST.out]; exact stp_ne' hxz)
            go_wp2_with fail
            go_quiet (fail)
            have HO7 := Lib.hid (HOX.out.drewN nq)
            have HB7 := Lib.hid (below_drewN HB.out nq)
            clear e0 e1 f0 f1 HOX HB
            generalize w1.drewN nq = wd at *
            have HXD := Lib.hid (exts_lit wd ((k : Int), 1) (by unfold I64; dsimp only; omega))
            have HOD := Lib.hid (HO7.out.alloc (.cells #[.int .i64 (k : Int), .int .i64 1] 42))
            have HBD := Lib.hid (HB7.out.alloc HB7.out.size (.cells #[.int .i64 (k : Int), .int .i64 1] 42))
            go_wp2_with (at_builtin; refine append_exts rfl (.tmp 56) (.tmp 59) rfl w.heap.size _ (ini ++ [(z1, z2)]) rfl HOD.out (some ⟨wd.heap.size, 0, none⟩) 1 1 [((k : Int), 1)] rfl (fun h => by cases h) rfl (by simpa using HXD.out) (by have := HEQ.out; omega) HBD.out.size ?_; intro v' w7 hown' hbel' _ _)
            rw [← HXS.out] at hown'
            go_roundw
            case rel => exact ⟨k + 1, _, _, rfl, rfl, by omega, by go_num, hown', HBD.out.trans hbel'⟩
            case measure => simp [intOf]; omega
      · rw [show decide ((k : Int) ∈ zs) = false by simpa using hin] at CI
        have HST := Lib.hid (show setL zs (k + 1) = acc by rw [HEX.out, if_neg hin])
        clear HEX hin
        go_wp2_with fail
        refine CI.out.mono ?_
        rintro e w1 ⟨rfl, rfl⟩
        clear hown hgr
        go_wp2
        go_roundw
        case rel => exact ⟨k + 1, _, _, rfl, rfl, by omega, by go_num, by rw [HST.out]; exact HO.out, HB.out⟩
        case measure => simp [intOf]; omega
    · obtain rfl : k = b := by omega
      have t1 : decide ((k : Int) < (k : Int)) = false := by simp
      clear hown hB
      go_wp2
      go_ret
      exact ⟨_, rfl, HO.out, HB.out⟩
end Go.Proofs.Ytgbhmjfhblganaa
