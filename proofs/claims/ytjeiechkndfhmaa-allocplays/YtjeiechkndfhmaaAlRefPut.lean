/-
  Contracts of the reference's pool: Give and Take. Conditions: it begins at a sector from 0 to 1048576, and has at most 1000; what is given has at most 1000 extents and 100000 sectors.
-/
import Derived.Test.YtjeiechkndfhmaaAlRefGet
import Derived.Test.YtjeiechkndfhmaaExRef
import Derived.Test.YtjeiechkndfhmaaExParts
import Derived.Test.YtjeiechkndfhmaaHeldList
namespace Go.Proofs.Ytjeiechkndfhmaa
open Go.RowKit Arr Ex

/-- May the reference's pool take or give these? -/
def rgOk (s : Int) (fs : List Bool) (l : List (Int × Int)) (b : Bool) : Prop := chain l = true ∧ ∀ u, u ∈ secs l → isB s fs u (!b) = true
def GiveR (g r : Nat) (s : Int) (fs : List Bool) (l : List (Int × Int)) (b : Bool) (w : World) (e : Ending) (w' : World) : Prop :=
  Only r w w' ∧ ((rgOk s fs l b ∧ e = .returned (.int .i64 0) ∧ Rpl w' g r s (setAll s b (secs l) fs)) ∨ (¬ rgOk s fs l b ∧ e = .returned (.int .i64 2) ∧ Rpl w' g r s fs))
/-- A row of ints, cell by cell. -/
def RowI (w : World) (b : Nat) (zs : List Int) : Prop := ∀ k (h : k < zs.length), w.cell? ⟨b, k, none⟩ = some (.int .i64 zs[k])
theorem RowI.only {w w' : World} {b y : Nat} {zs : List Int} (h : RowI w b zs) (hb : Only y w w') (hl : b < w.heap.size) (hy : b ≠ y) : RowI w' b zs := fun k hk => (hb.cell (p := ⟨b, k, none⟩) hl hy).trans (h k hk)
theorem OwnI.row {w : World} {base b n c : Nat} {zs : List Int} (h : OwnI w base (.slice (some ⟨b, 0, none⟩) n c) zs) (hn : n = zs.length) : RowI w b zs := fun k hk => by
  subst hn
  rw [World.ownsRow.cellAt h k (by omega), iv_get zs k hk]
  simp [hk]
theorem take_getI {l : List Int} {k : Nat} (hk : k < l.length) : l.take (k + 1) = l.take k ++ [l[k]] := by rw [List.take_add_one, List.getElem?_eq_getElem hk]; rfl
theorem RowI.ints {w : World} {b : Nat} {zs : List Int} (h : RowI w b zs) (hl : b < w.heap.size) (hz : ∀ z, z ∈ zs → Z64 z) : IntsI w w.heap.size (some ⟨b, 0, none⟩) zs := ⟨hz, fun _ => ⟨b, 0, rfl, hl, fun i hi => by rw [Nat.zero_add, h i hi, List.getD_eq_getElem?_getD, List.getElem?_eq_getElem hi]; rfl⟩⟩
/-- 'all[:k]' of a row of the call's own. -/
theorem ints_head (b n c k : Nat) (hk : k ≤ n) (h1 : 1 ≤ n) (hc : n ≤ c) (W : World) : (Instr.slice 42 (.slice (some ⟨b, 0, none⟩) n c) none (some (.int .i64 (k : Int))) none).run Try.prog W = .ok (.slice (some ⟨b, 0, none⟩) k c) W := by
  rw [run_slice_h W 42 _ n c under_i .i64 _ (by omega) (by omega), sizeof_i]
  simp only [Result.andThen_ok, sliced, Int.toNat_natCast, Nat.sub_zero]
  rw [if_neg (by omega), Option.map_some, add_nat2]
set_option maxRecDepth 100000 in
set_option maxHeartbeats 8000000 in
theorem rgive_any {w : World} {g r : Nat} {s : Int} {fs : List Bool} (h : Rpl w g r s fs) (hs : 0 ≤ s ∧ s ≤ 1048576) (A : Option Addr) (n c : Nat) (l : List (Int × Int)) (hl : l.length = n) (hn : n ≤ 1000) (ht : chain l = true → total l ≤ 100000) (hx : Exts w w.heap.size A l) (b : Bool) :
    Calls Try.prog 11 #[.pointer (some ⟨g, 0, none⟩), .slice A n c, .bool b] w (GiveR g r s fs l b w) := by
  have mixed : Try.prog.follows .mixedOrders = true := by kernel_rfl
  have CC := Lib.hid (rchain_any w A c n l hl hx (by omega))
  have HR := Lib.hid h
  have HX := Lib.hid hx
  have HN := Lib.hid hl
  have hrg := h.rl
  clear h hx hl
  by_cases hch : chain l = true
  · have hm : ∀ x, x ∈ l → may x = true := ((chain_iff l).1 hch).1
    have HT := Lib.hid (ht hch)
    rw [hch] at CC
    have HCH := Lib.hid hch
    clear hch ht
    go_enter Try.func11, Try.ntmps11
    go_wp2_with fail
    refine CC.out.mono ?_
    rintro e w1 ⟨rfl, hb1⟩
    have HB1 := Lib.hid hb1
    have CS := Lib.hid (rsectors_any w1 A n c l HN.out (by omega) hm HT.out (HX.out.later hb1))
    clear hb1 CC
    go_wp2_with fail
    refine CS.out.mono ?_
    rintro e w2 ⟨v, rfl, ho, hb2⟩
    have HB2 := Lib.hid (HB1.out.trans (hb2.mono HB1.out.size))
    have HZ := Lib.hid (show ∀ z, z ∈ secs l → Z64 z from fun z hz => by
      obtain ⟨x, hx1, hx2⟩ := (mem_secs z l).1 hz
      have := (may_iff x).1 (hm x hx1)
      unfold In at hx2
      unfold Z64; omega)
    have HL0 := Lib.hid (show (secs l).length ≤ 100000 from by
      have := total_secs l (fun x hx => by have := (may_iff x).1 (hm x hx); omega)
      have := HT.out
      omega)
    obtain ⟨A1, c1, rfl, hc1, _, hi1⟩ := ho.shape
    have HROW := Lib.hid (show 0 < (secs l).length → ∃ b', A1 = some ⟨b', 0, none⟩ ∧ w.heap.size ≤ b' ∧ b' < w2.heap.size ∧ RowI w2 b' (secs l) from fun hp => by
      have ho' := ho
      obtain ⟨b', cap, e1, e2, e3⟩ := World.ownsRow.form ho' hp
      simp only [Value.slice.injEq] at e1
      obtain ⟨rfl, _, rfl⟩ := e1
      exact ⟨b', rfl, Nat.le_trans HB1.out.size e2, e3, OwnI.row ho rfl⟩)
    clear ho hb2 hi1 CS
    generalize hzs : secs l = zs at *
    have HZS := Lib.hid hzs
    generalize hN : zs.length = N at *
    have HLN := Lib.hid hN
    have hN5 : N ≤ 100000 := HL0.out
    clear hzs hN
    go_wp2
    go_loopw [8] (fun i wr => ∃ (k q : Nat), k ≤ N ∧ i = .int .i64 (k : Int) ∧ wr = w2.drewN q ∧ ∀ u, u ∈ zs.take k → isB s fs u (!b) = true) (fun i _ => N - (intOf i).toNat)
    case atStart => exact ⟨0, 0, Nat.zero_le _, rfl, rfl, fun u hu => by simp at hu⟩
    case round =>
      obtain ⟨k, q, hk, rfl, rfl, hall⟩ := hrel
      have HALL := Lib.hid hall
      by_cases hlt : k < N
      · have hkz : k < zs.length := by rw [HLN.out]; exact hlt
        obtain ⟨b', rfl, hlo, hb', hrow⟩ := HROW.out (by omega)
        have cz : (w2.drewN q).cell? ⟨b', k, none⟩ = some (.int .i64 zs[k]) := hrow k hkz
        have t1 : decide ((k : Int) < (N : Int)) = true := by simp; omega
        have wk : IntKind.i64.wrap ((k : Int) + 1) = (k : Int) + 1 := by rw [IntKind.wrap_i64]; omega
        have huz := HZ.out zs[k] (List.getElem_mem hkz)
        have CI := Lib.hid (ris_any ((HR.out.below HB2.out).below (below_drewN_self w2 q)) hs zs[k] huz (!b))
        have TK := Lib.hid (take_getI hkz)
        have HM := Lib.hid (List.getElem_mem hkz)
        clear hall hrow
        generalize zs[k] = u at *
        cases hisb : isB s fs u (!b) with
        | true =>
          rw [hisb] at CI
          go_wp2_with fail
          refine CI.out.mono ?_
          rintro e w3 ⟨rfl, q2, rfl⟩
          have HI := Lib.hid hisb
          clear hisb CI
          go_wp2
          go_roundw
          case rel =>
            refine ⟨k + 1, q + q2, by omega, by simp, by first | rfl | simp, fun x hx => ?_⟩
            rw [TK.out] at hx
            rcases List.mem_append.1 hx with hx | hx
            · exact HALL.out x hx
            · rw [List.mem_singleton] at hx; subst hx; exact HI.out
          case measure => simp [intOf]; omega
        | false =>
          rw [hisb] at CI
          go_wp2_with fail
          refine CI.out.mono ?_
          rintro e w3 ⟨rfl, q2, rfl⟩
          have hB3 : Below w.heap.size w (w2.drewN (q + q2)) := HB2.out.trans ((below_drewN_self w2 (q + q2)).mono HB2.out.size)
          have HF := Lib.hid (show GiveR g r s fs l b w (.returned (.int .i64 2)) (w2.drewN (q + q2)) from ⟨Only.of hB3, .inr ⟨fun hg => (by have := hg.2 u (by rw [HZS.out]; exact HM.out); rw [hisb] at this; cases this), rfl, HR.out.below hB3⟩⟩)
          clear hisb CI hB3
          go_wp2
          go_ret
          exact HF.out
      · obtain rfl : k = N := by omega
        have t1 : decide ((k : Int) < (k : Int)) = false := by simp
        have HOK := Lib.hid (show ∀ u, u ∈ zs → isB s fs u (!b) = true from fun u hu => HALL.out u (by rw [← HLN.out, List.take_length]; exact hu))
        have hBq : Below w.heap.size w (w2.drewN q) := HB2.out.trans ((below_drewN_self w2 q).mono HB2.out.size)
        have HBQ := Lib.hid hBq
        have HRQ := Lib.hid (HR.out.below hBq)
        have HROWQ := Lib.hid (show 0 < k → ∃ b', A1 = some ⟨b', 0, none⟩ ∧ w.heap.size ≤ b' ∧ b' < (w2.drewN q).heap.size ∧ RowI (w2.drewN q) b' zs from HROW.out)
        generalize w2.drewN q = w3 at *
        clear hall HALL hBq HROW
        go_wp2
        go_loopw [9] (fun i wr => ∃ (j : Nat), j ≤ k ∧ i = .int .i64 (j : Int) ∧ Rpl wr g r s (setAll s b (zs.take j) fs) ∧ Only r w3 wr) (fun i _ => k - (intOf i).toNat)
        case atStart => exact ⟨0, Nat.zero_le _, rfl, by rw [List.take_zero]; exact HRQ.out, Only.refl _ _⟩
        case round =>
          obtain ⟨j, hj, rfl, hR, hO⟩ := hrel
          have HRJ := Lib.hid hR
          have HOJ := Lib.hid hO
          by_cases hlt : j < k
          · have hkz : j < zs.length := by rw [HLN.out]; exact hlt
            obtain ⟨b', rfl, hlo, hb', hrow⟩ := HROWQ.out (by omega)
            have cz : wr.cell? ⟨b', j, none⟩ = some (.int .i64 zs[j]) := (hrow.only hO hb' (by omega)) j hkz
            have t1 : decide ((j : Int) < (k : Int)) = true := by simp; omega
            have wk : IntKind.i64.wrap ((j : Int) + 1) = (j : Int) + 1 := by rw [IntKind.wrap_i64]; omega
            have huz := HZ.out zs[j] (List.getElem_mem hkz)
            obtain ⟨g1, g2⟩ := (isB_iff _ _ _ _).1 (HOK.out zs[j] (List.getElem_mem hkz))
            have g3 : (zs[j] - s).toNat < fs.length := (List.getElem?_eq_some_iff.1 g2).1
            have TK := Lib.hid (take_getI hkz)
            have c0 := hR.c0
            obtain ⟨cf, c1, crow⟩ := hR.c1
            have f0 : wr.frozen? ⟨r, (zs[j] - s).toNat, none⟩ = false := crow.frozenAt _
            have f1 : wr.cell? ⟨r, (zs[j] - s).toNat, none⟩ = some (.bool ((setAll s b (zs.take j) fs)[(zs[j] - s).toNat]'(by rw [length_setAll]; exact g3))) := hR.cell _ _
            rw [length_setAll] at c1
            obtain ⟨PUT1, PUT2⟩ := hR.set (zs[j] - s).toNat b
            have HPUT := Lib.hid (PUT1.blocks (w' := (wr.setCell ⟨r, (zs[j] - s).toNat, none⟩ (.bool b)).drew) rfl rfl)
            have HPUT2 := Lib.hid PUT2.drew
            clear hR hO crow hrow g2 PUT1 PUT2
            generalize zs[j] = u at *
            generalize (setAll s b (zs.take j) fs)[(u - s).toNat]'_ = old at *
            have ws : IntKind.i64.wrap (u - s) = u - s := by rw [IntKind.wrap_i64]; unfold Z64 at huz; omega
            have g4 : 0 ≤ u - s := by omega
            have g5 : u - s < (fs.length : Int) := by omega
            generalize fs.length = nf at *
            generalize hkk : j = k' at *
            go_wp2
            refine wp_region_L [(15, (fun w' => w'.cell? ⟨g, 1, none⟩ = some (.slice (some ⟨r, 0, none⟩) nf cf))), (15, (fun w' => w'.cell? ⟨b', k', none⟩ = some (.int .i64 u))), (15, (fun w' => w'.cell? ⟨g, 0, none⟩ = some (.int .i64 s)))] 16 #[false, false, false, false, false, false, false, false, false, false, false, false, false, false, false, false] (by kernel_rfl) (by rfl) (by kernel_rfl) (by intro p hp; simp only [List.mem_cons, List.not_mem_nil, or_false] at hp; rcases hp with rfl | rfl | rfl; exact c1; exact cz; exact c0) (fun hHeld => ?_)
            refine wpAnyL_take (i := 0) (v := ?_) rfl (by kernel_rfl) (by kernel_rfl) (by kernel_rfl) (by rfl) (fun _ _ _ h => h) (Or.inl ⟨by rfl, ?_⟩) hHeld (fun hHeld2 => ?_)
            rotate_left
            · (intro wz hSw; go_simp; try with_reducible rfl)
            clear hHeld; have hHeld := hHeld2; clear hHeld2
            try simp only [List.getElem_toArray, List.getElem_cons_zero, Act.put, List.setIfInBounds_toArray, List.set_cons_zero, List.set_cons_succ]
            refine wpAnyL_take (i := 1) (v := ?_) rfl (by kernel_rfl) (by kernel_rfl) (by kernel_rfl) (by rfl) (fun _ _ _ h => h) (Or.inl ⟨by rfl, ?_⟩) hHeld (fun hHeld2 => ?_)
            rotate_left
            · (intro wz hSw; go_simp; try with_reducible rfl)
            clear hHeld; have hHeld := hHeld2; clear hHeld2
            try simp only [List.getElem_toArray, List.getElem_cons_zero, List.getElem_cons_succ, Act.put, List.setIfInBounds_toArray, List.set_cons_zero, List.set_cons_succ]
            refine wpAnyL_take (i := 2) (v := ?_) rfl (by kernel_rfl) (by kernel_rfl) (by kernel_rfl) (by rfl) (fun _ _ _ h => h) (Or.inl ⟨by rfl, ?_⟩) hHeld (fun hHeld2 => ?_)
            rotate_left
            · (intro wz hSw; go_simp; try with_reducible rfl)
            clear hHeld; have hHeld := hHeld2; clear hHeld2
            try simp only [List.getElem_toArray, List.getElem_cons_zero, List.getElem_cons_succ, Act.put, List.setIfInBounds_toArray, List.set_cons_zero, List.set_cons_succ]
            refine wpAnyL_take (i := 3) (v := ?_) rfl (by kernel_rfl) (by kernel_rfl) (by kernel_rfl) (by rfl) (fun _ _ _ h => h) (Or.inl ⟨by rfl, ?_⟩) hHeld (fun hHeld2 => ?_)
            rotate_left
            · (intro wz hSw; have hq : wz.cell? ⟨g, 1, none⟩ = some (.slice (some ⟨r, 0, none⟩) nf cf) := hSw.get _ (List.Mem.head _) 3 (by kernel_rfl); go_simp; try with_reducible rfl)
            clear hHeld; have hHeld := hHeld2; clear hHeld2
            try simp only [List.getElem_toArray, List.getElem_cons_zero, List.getElem_cons_succ, Act.put, List.setIfInBounds_toArray, List.set_cons_zero, List.set_cons_succ]
            refine wpAnyL_take (i := 4) (v := ?_) rfl (by kernel_rfl) (by kernel_rfl) (by kernel_rfl) (by rfl) (fun _ _ _ h => h) (Or.inl ⟨by rfl, ?_⟩) hHeld (fun hHeld2 => ?_)
            rotate_left
            · (intro wz hSw; go_simp; try with_reducible rfl)
            clear hHeld; have hHeld := hHeld2; clear hHeld2
            try simp only [List.getElem_toArray, List.getElem_cons_zero, List.getElem_cons_succ, Act.put, List.setIfInBounds_toArray, List.set_cons_zero, List.set_cons_succ]
            refine wpAnyL_take (i := 5) (v := ?_) rfl (by kernel_rfl) (by kernel_rfl) (by kernel_rfl) (by rfl) (fun _ _ _ h => h) (Or.inl ⟨by rfl, ?_⟩) hHeld (fun hHeld2 => ?_)
            rotate_left
            · (intro wz hSw; go_simp; try with_reducible rfl)
            clear hHeld; have hHeld := hHeld2; clear hHeld2
            try simp only [List.getElem_toArray, List.getElem_cons_zero, List.getElem_cons_succ, Act.put, List.setIfInBounds_toArray, List.set_cons_zero, List.set_cons_succ]
            refine wpAnyL_take (i := 6) (v := ?_) rfl (by kernel_rfl) (by kernel_rfl) (by kernel_rfl) (by rfl) (fun _ _ _ h => h) (Or.inl ⟨by rfl, ?_⟩) hHeld (fun hHeld2 => ?_)
            rotate_left
            · (intro wz hSw; go_simp; try with_reducible rfl)
            clear hHeld; have hHeld := hHeld2; clear hHeld2
            try simp only [List.getElem_toArray, List.getElem_cons_zero, List.getElem_cons_succ, Act.put, List.setIfInBounds_toArray, List.set_cons_zero, List.set_cons_succ]
            refine wpAnyL_take (i := 7) (v := ?_) rfl (by kernel_rfl) (by kernel_rfl) (by kernel_rfl) (by rfl) (fun _ _ _ h => h) (Or.inl ⟨by rfl, ?_⟩) hHeld (fun hHeld2 => ?_)
            rotate_left
            · (intro wz hSw; have hq : wz.cell? ⟨b', k', none⟩ = some (.int .i64 u) := hSw.get _ (List.Mem.tail _ (List.Mem.head _)) 3 (by kernel_rfl); go_simp; try with_reducible rfl)
            clear hHeld; have hHeld := hHeld2; clear hHeld2
            try simp only [List.getElem_toArray, List.getElem_cons_zero, List.getElem_cons_succ, Act.put, List.setIfInBounds_toArray, List.set_cons_zero, List.set_cons_succ]
            refine wpAnyL_take (i := 8) (v := ?_) rfl (by kernel_rfl) (by kernel_rfl) (by kernel_rfl) (by rfl) (fun _ _ _ h => h) (Or.inl ⟨by rfl, ?_⟩) hHeld (fun hHeld2 => ?_)
            rotate_left
            · (intro wz hSw; go_simp; try with_reducible rfl)
            clear hHeld; have hHeld := hHeld2; clear hHeld2
            try simp only [List.getElem_toArray, List.getElem_cons_zero, List.getElem_cons_succ, Act.put, List.setIfInBounds_toArray, List.set_cons_zero, List.set_cons_succ]
            refine wpAnyL_take (i := 9) (v := ?_) rfl (by kernel_rfl) (by kernel_rfl) (by kernel_rfl) (by rfl) (fun _ _ _ h => h) (Or.inl ⟨by rfl, ?_⟩) hHeld (fun hHeld2 => ?_)
            rotate_left
            · (intro wz hSw; go_simp; try with_reducible rfl)
            clear hHeld; have hHeld := hHeld2; clear hHeld2
            try simp only [List.getElem_toArray, List.getElem_cons_zero, List.getElem_cons_succ, Act.put, List.setIfInBounds_toArray, List.set_cons_zero, List.set_cons_succ]
            refine wpAnyL_take (i := 10) (v := ?_) rfl (by kernel_rfl) (by kernel_rfl) (by kernel_rfl) (by rfl) (fun _ _ _ h => h) (Or.inl ⟨by rfl, ?_⟩) hHeld (fun hHeld2 => ?_)
            rotate_left
            · (intro wz hSw; go_simp; try with_reducible rfl)
            clear hHeld; have hHeld := hHeld2; clear hHeld2
            try simp only [List.getElem_toArray, List.getElem_cons_zero, List.getElem_cons_succ, Act.put, List.setIfInBounds_toArray, List.set_cons_zero, List.set_cons_succ]
            refine wpAnyL_take (i := 11) (v := ?_) rfl (by kernel_rfl) (by kernel_rfl) (by kernel_rfl) (by rfl) (fun _ _ _ h => h) (Or.inl ⟨by rfl, ?_⟩) hHeld (fun hHeld2 => ?_)
            rotate_left
            · (intro wz hSw; have hq : wz.cell? ⟨g, 0, none⟩ = some (.int .i64 s) := hSw.get _ (List.Mem.tail _ (List.Mem.tail _ (List.Mem.head _))) 3 (by kernel_rfl); go_simp; try with_reducible rfl)
            clear hHeld; have hHeld := hHeld2; clear hHeld2
            try simp only [List.getElem_toArray, List.getElem_cons_zero, List.getElem_cons_succ, Act.put, List.setIfInBounds_toArray, List.set_cons_zero, List.set_cons_succ]
            refine wpAnyL_take (i := 12) (v := ?_) rfl (by kernel_rfl) (by kernel_rfl) (by kernel_rfl) (by rfl) (fun _ _ _ h => h) (Or.inl ⟨by rfl, ?_⟩) hHeld (fun hHeld2 => ?_)
            rotate_left
            · (intro wz hSw; go_simp; try with_reducible rfl)
            clear hHeld; have hHeld := hHeld2; clear hHeld2
            try simp only [List.getElem_toArray, List.getElem_cons_zero, List.getElem_cons_succ, Act.put, List.setIfInBounds_toArray, List.set_cons_zero, List.set_cons_succ]
            refine wpAnyL_take (i := 13) (v := ?_) rfl (by kernel_rfl) (by kernel_rfl) (by kernel_rfl) (by rfl) (fun _ _ _ h => h) (Or.inl ⟨by rfl, ?_⟩) hHeld (fun hHeld2 => ?_)
            rotate_left
            · (intro wz hSw; go_simp; try with_reducible rfl)
            clear hHeld; have hHeld := hHeld2; clear hHeld2
            try simp only [List.getElem_toArray, List.getElem_cons_zero, List.getElem_cons_succ, Act.put, List.setIfInBounds_toArray, List.set_cons_zero, List.set_cons_succ]
            refine wpAnyL_one (i := 14) (by kernel_rfl) rfl rfl hHeld (fun K hK => ?_)
            go_simp
            refine hK.out _ _ (by intro p hp hl; simp only [List.mem_cons, List.not_mem_nil, or_false] at hp; rcases hp with rfl | rfl | rfl; exact c1; exact cz; exact c0) (fun hHeld2 => ?_)
            clear hHeld hK K ; have hHeld := hHeld2; clear hHeld2
            try simp only [List.setIfInBounds_toArray, List.set_cons_zero, List.set_cons_succ]
            refine wpAnyL_one (i := 15) (by kernel_rfl) rfl rfl hHeld (fun K hK => ?_)
            go_simp
            refine hK.out _ _ (by intro p hp hl; simp only [List.mem_cons, List.not_mem_nil, or_false] at hp; rcases hp with rfl | rfl | rfl <;> exact Bool.noConfusion (hl.symm.trans (show _ = true by kernel_rfl))) (fun hHeld2 => ?_)
            clear hHeld hK K hHeld2
            try simp only [List.getElem_toArray, List.getElem_cons_zero, List.getElem_cons_succ, Act.put]
            refine wpAnyL_done (by kernel_rfl) ?_ _
            go_wp2
            go_roundw
            case rel =>
              refine ⟨k' + 1, by omega, by simp, ?_, HOJ.out.trans ?_⟩
              · rw [TK.out, setAll_snoc]; exact HPUT.out
              · exact HPUT2.out
            case measure => simp [intOf]; omega
          · obtain rfl : j = k := by omega
            have t1 : decide ((j : Int) < (j : Int)) = false := by simp
            have HF := Lib.hid (show GiveR g r s fs l b w (.returned (.int .i64 0)) wr from by
              refine ⟨(Only.of HBQ.out).trans hO, .inl ⟨⟨HCH.out, fun u hu => HOK.out u (by rw [← HZS.out]; exact hu)⟩, rfl, ?_⟩⟩
              rw [← HLN.out, List.take_length] at hR
              rw [HZS.out]; exact hR)
            clear hR hO
            go_wp2
            go_ret
            exact HF.out
  · have hch' : chain l = false := by simpa using hch
    rw [hch'] at CC
    have HNC := Lib.hid hch
    clear hch hch' ht
    go_enter Try.func11, Try.ntmps11
    go_wp2_with fail
    refine CC.out.mono ?_
    rintro e w1 ⟨rfl, hb1⟩
    have HF := Lib.hid (show GiveR g r s fs l b w (.returned (.int .i64 2)) w1 from ⟨Only.of hb1, .inr ⟨fun hg => HNC.out hg.1, rfl, HR.out.below hb1⟩⟩)
    clear hb1 CC
    go_wp2
    go_ret
    exact HF.out
/-- What Take leaves. -/
def TakeR (g r : Nat) (s : Int) (fs : List Bool) (n : Int) (w : World) (e : Ending) (w' : World) : Prop :=
  Only r w w' ∧ ((n < 1 ∧ e = .returned (.tuple #[.slice none 0 0, .int .i64 2]) ∧ Rpl w' g r s fs) ∨ (1 ≤ n ∧ ((frs s fs).length : Int) < n ∧ e = .returned (.tuple #[.slice none 0 0, .int .i64 34]) ∧ Rpl w' g r s fs)
    ∨ (1 ≤ n ∧ n ≤ ((frs s fs).length : Int) ∧ ∃ A c, e = .returned (.tuple #[.slice A n.toNat c, .int .i64 0]) ∧ IntsI w' w'.heap.size A ((frs s fs).take n.toNat) ∧ Rpl w' g r s (setAll s false ((frs s fs).take n.toNat) fs)))
set_option maxRecDepth 100000 in
set_option maxHeartbeats 8000000 in
theorem rtake_any {w : World} {g r : Nat} {s : Int} {fs : List Bool} (h : Rpl w g r s fs) (hs : 0 ≤ s ∧ s ≤ 1048576) (hf : fs.length ≤ 1000) (n : Int) (hz : -9223372036854775808 ≤ n ∧ n ≤ 9223372036854775807) :
    Calls Try.prog 13 #[.pointer (some ⟨g, 0, none⟩), .int .i64 n] w (TakeR g r s fs n w) := by
  have mixed : Try.prog.follows .mixedOrders = true := by kernel_rfl
  have HR := Lib.hid h
  have hrg := h.rl
  have CL := Lib.hid (rlist_any h hs hf)
  have HFR := Lib.hid (show ∀ u, u ∈ frs s fs → s ≤ u ∧ (u - s).toNat < fs.length from fun u hu => by
    obtain ⟨q1, q2⟩ := (isB_iff _ _ _ _).1 ((mem_frs fs s u).1 hu)
    exact ⟨q1, (List.getElem?_eq_some_iff.1 q2).1⟩)
  have hlen : (frs s fs).length ≤ 1000 := by have := length_frs fs s; omega
  clear h
  by_cases hn : n < 1
  · have t1 : decide (n < 1) = true := by simpa using hn
    have HF := Lib.hid (show TakeR g r s fs n w (.returned (.tuple #[.slice none 0 0, .int .i64 2])) w from ⟨Only.refl _ _, .inl ⟨hn, rfl, HR.out⟩⟩)
    clear CL
    go_enter Try.func13, Try.ntmps13
    go_wp2
    go_ret2
    exact HF.out
  · have t1 : decide (n < 1) = false := by simpa using hn
    by_cases hle : n ≤ ((frs s fs).length : Int)
    · have t2 : decide (((frs s fs).length : Int) < n) = false := by simpa using hle
      obtain ⟨m, rfl⟩ : ∃ m : Nat, n = (m : Int) := ⟨n.toNat, by omega⟩
      have h1m : 1 ≤ m := by omega
      generalize hzs : frs s fs = zs at *
      have HZS := Lib.hid hzs
      generalize hN : zs.length = N at *
      have HLN := Lib.hid hN
      have hmN : m ≤ N := by omega
      clear hzs hN
      go_enter Try.func13, Try.ntmps13
      go_wp2_with fail
      refine CL.out.mono ?_
      rintro e w1 ⟨v1, rfl, ho1, hb1⟩
      obtain ⟨A1, c1, rfl, _, _, _⟩ := ho1.shape
      rw [HLN.out]
      have HB1 := Lib.hid hb1
      have CL2 := Lib.hid (rlist_any (HR.out.below hb1) hs hf)
      rw [HZS.out] at CL2
      clear ho1 hb1 CL
      go_wp2_with fail
      refine CL2.out.mono ?_
      rintro e w2 ⟨v2, rfl, ho2, hb2⟩
      have HB2 := Lib.hid (HB1.out.trans (hb2.mono HB1.out.size))
      have ho2' := ho2
      have hc2 : ∃ A c, v2 = .slice A zs.length c ∧ zs.length ≤ c := by obtain ⟨A, c, e, h, _⟩ := ho2.shape; exact ⟨A, c, e, h⟩
      obtain ⟨b', cap, rfl, hlo, hb'⟩ := World.ownsRow.form ho2' (by rw [HLN.out]; omega)
      obtain ⟨_, _, e2, hcap⟩ := hc2
      simp only [Value.slice.injEq, true_and] at e2
      obtain ⟨rfl, rfl⟩ := e2
      rw [HLN.out] at hcap
      have HROW := Lib.hid (And.intro (show w.heap.size ≤ b' from Nat.le_trans HB1.out.size hlo) (OwnI.row ho2 rfl))
      have HSL := Lib.hid (ints_head b' N cap m hmN (by omega) hcap)
      rw [HLN.out]
      have HSLW := HSL.out w2
      clear ho2 hb2 CL2 ho2' hlo
      go_wp2
      go_loopw [7] (fun i wr => ∃ (j : Nat), j ≤ m ∧ i = .int .i64 (j : Int) ∧ Rpl wr g r s (setAll s false (zs.take j) fs) ∧ Only r w2 wr) (fun i _ => m - (intOf i).toNat)
      case atStart => exact ⟨0, Nat.zero_le _, rfl, by rw [List.take_zero]; exact HR.out.below HB2.out, Only.refl _ _⟩
      case round =>
        obtain ⟨j, hj, rfl, hR, hO⟩ := hrel
        have HRJ := Lib.hid hR
        have HOJ := Lib.hid hO
        by_cases hlt : j < m
        · have hkz : j < zs.length := by rw [HLN.out]; omega
          have cz : wr.cell? ⟨b', j, none⟩ = some (.int .i64 zs[j]) := (HROW.out.2.only hO hb' (by have := HROW.out.1; omega)) j hkz
          have t3 : decide ((j : Int) < (m : Int)) = true := by simp; omega
          have wk : IntKind.i64.wrap ((j : Int) + 1) = (j : Int) + 1 := by rw [IntKind.wrap_i64]; omega
          obtain ⟨g1, g3⟩ := HFR.out zs[j] (List.getElem_mem hkz)
          have TK := Lib.hid (take_getI hkz)
          have c0 := hR.c0
          obtain ⟨cf, c1, crow⟩ := hR.c1
          have f0 : wr.frozen? ⟨r, (zs[j] - s).toNat, none⟩ = false := crow.frozenAt _
          have f1 : wr.cell? ⟨r, (zs[j] - s).toNat, none⟩ = some (.bool ((setAll s false (zs.take j) fs)[(zs[j] - s).toNat]'(by rw [length_setAll]; exact g3))) := hR.cell _ _
          rw [length_setAll] at c1
          obtain ⟨PUT1, PUT2⟩ := hR.set (zs[j] - s).toNat false
          have HPUT := Lib.hid (PUT1.blocks (w' := (wr.setCell ⟨r, (zs[j] - s).toNat, none⟩ (.bool false)).drew) rfl rfl)
          have HPUT2 := Lib.hid PUT2.drew
          clear hR hO crow PUT1 PUT2
          generalize zs[j] = u at *
          generalize (setAll s false (zs.take j) fs)[(u - s).toNat]'_ = old at *
          have ws : IntKind.i64.wrap (u - s) = u - s := by rw [IntKind.wrap_i64]; omega
          have g4 : 0 ≤ u - s := by omega
          have g5 : u - s < (fs.length : Int) := by omega
          generalize fs.length = nf at *
          generalize hkk : j = k' at *
          go_wp2
          refine wp_region_L [(14, (fun w' => w'.cell? ⟨g, 1, none⟩ = some (.slice (some ⟨r, 0, none⟩) nf cf))), (14, (fun w' => w'.cell? ⟨b', k', none⟩ = some (.int .i64 u))), (14, (fun w' => w'.cell? ⟨g, 0, none⟩ = some (.int .i64 s)))] 15 #[false, false, false, false, false, false, false, false, false, false, false, false, false, false, false] (by kernel_rfl) (by rfl) (by kernel_rfl) (by intro p hp; simp only [List.mem_cons, List.not_mem_nil, or_false] at hp; rcases hp with rfl | rfl | rfl; exact c1; exact cz; exact c0) (fun hHeld => ?_)
          refine wpAnyL_take (i := 0) (v := ?_) rfl (by kernel_rfl) (by kernel_rfl) (by kernel_rfl) (by rfl) (fun _ _ _ h => h) (Or.inl ⟨by rfl, ?_⟩) hHeld (fun hHeld2 => ?_)
          rotate_left
          · (intro wz hSw; go_simp; try with_reducible rfl)
          clear hHeld; have hHeld := hHeld2; clear hHeld2
          try simp only [List.getElem_toArray, List.getElem_cons_zero, Act.put, List.setIfInBounds_toArray, List.set_cons_zero, List.set_cons_succ]
          refine wpAnyL_take (i := 1) (v := ?_) rfl (by kernel_rfl) (by kernel_rfl) (by kernel_rfl) (by rfl) (fun _ _ _ h => h) (Or.inl ⟨by rfl, ?_⟩) hHeld (fun hHeld2 => ?_)
          rotate_left
          · (intro wz hSw; go_simp; try with_reducible rfl)
          clear hHeld; have hHeld := hHeld2; clear hHeld2
          try simp only [List.getElem_toArray, List.getElem_cons_zero, List.getElem_cons_succ, Act.put, List.setIfInBounds_toArray, List.set_cons_zero, List.set_cons_succ]
          refine wpAnyL_take (i := 2) (v := ?_) rfl (by kernel_rfl) (by kernel_rfl) (by kernel_rfl) (by rfl) (fun _ _ _ h => h) (Or.inl ⟨by rfl, ?_⟩) hHeld (fun hHeld2 => ?_)
          rotate_left
          · (intro wz hSw; go_simp; try with_reducible rfl)
          clear hHeld; have hHeld := hHeld2; clear hHeld2
          try simp only [List.getElem_toArray, List.getElem_cons_zero, List.getElem_cons_succ, Act.put, List.setIfInBounds_toArray, List.set_cons_zero, List.set_cons_succ]
          refine wpAnyL_take (i := 3) (v := ?_) rfl (by kernel_rfl) (by kernel_rfl) (by kernel_rfl) (by rfl) (fun _ _ _ h => h) (Or.inl ⟨by rfl, ?_⟩) hHeld (fun hHeld2 => ?_)
          rotate_left
          · (intro wz hSw; have hq : wz.cell? ⟨g, 1, none⟩ = some (.slice (some ⟨r, 0, none⟩) nf cf) := hSw.get _ (List.Mem.head _) 3 (by kernel_rfl); go_simp; try with_reducible rfl)
          clear hHeld; have hHeld := hHeld2; clear hHeld2
          try simp only [List.getElem_toArray, List.getElem_cons_zero, List.getElem_cons_succ, Act.put, List.setIfInBounds_toArray, List.set_cons_zero, List.set_cons_succ]
          refine wpAnyL_take (i := 4) (v := ?_) rfl (by kernel_rfl) (by kernel_rfl) (by kernel_rfl) (by rfl) (fun _ _ _ h => h) (Or.inl ⟨by rfl, ?_⟩) hHeld (fun hHeld2 => ?_)
          rotate_left
          · (intro wz hSw; go_simp; try with_reducible rfl)
          clear hHeld; have hHeld := hHeld2; clear hHeld2
          try simp only [List.getElem_toArray, List.getElem_cons_zero, List.getElem_cons_succ, Act.put, List.setIfInBounds_toArray, List.set_cons_zero, List.set_cons_succ]
          refine wpAnyL_take (i := 5) (v := ?_) rfl (by kernel_rfl) (by kernel_rfl) (by kernel_rfl) (by rfl) (fun _ _ _ h => h) (Or.inl ⟨by rfl, ?_⟩) hHeld (fun hHeld2 => ?_)
          rotate_left
          · (intro wz hSw; go_simp; try with_reducible rfl)
          clear hHeld; have hHeld := hHeld2; clear hHeld2
          try simp only [List.getElem_toArray, List.getElem_cons_zero, List.getElem_cons_succ, Act.put, List.setIfInBounds_toArray, List.set_cons_zero, List.set_cons_succ]
          refine wpAnyL_take (i := 6) (v := ?_) rfl (by kernel_rfl) (by kernel_rfl) (by kernel_rfl) (by rfl) (fun _ _ _ h => h) (Or.inl ⟨by rfl, ?_⟩) hHeld (fun hHeld2 => ?_)
          rotate_left
          · (intro wz hSw; go_simp; try with_reducible rfl)
          clear hHeld; have hHeld := hHeld2; clear hHeld2
          try simp only [List.getElem_toArray, List.getElem_cons_zero, List.getElem_cons_succ, Act.put, List.setIfInBounds_toArray, List.set_cons_zero, List.set_cons_succ]
          refine wpAnyL_take (i := 7) (v := ?_) rfl (by kernel_rfl) (by kernel_rfl) (by kernel_rfl) (by rfl) (fun _ _ _ h => h) (Or.inl ⟨by rfl, ?_⟩) hHeld (fun hHeld2 => ?_)
          rotate_left
          · (intro wz hSw; have hq : wz.cell? ⟨b', k', none⟩ = some (.int .i64 u) := hSw.get _ (List.Mem.tail _ (List.Mem.head _)) 3 (by kernel_rfl); go_simp; try with_reducible rfl)
          clear hHeld; have hHeld := hHeld2; clear hHeld2
          try simp only [List.getElem_toArray, List.getElem_cons_zero, List.getElem_cons_succ, Act.put, List.setIfInBounds_toArray, List.set_cons_zero, List.set_cons_succ]
          refine wpAnyL_take (i := 8) (v := ?_) rfl (by kernel_rfl) (by kernel_rfl) (by kernel_rfl) (by rfl) (fun _ _ _ h => h) (Or.inl ⟨by rfl, ?_⟩) hHeld (fun hHeld2 => ?_)
          rotate_left
          · (intro wz hSw; go_simp; try with_reducible rfl)
          clear hHeld; have hHeld := hHeld2; clear hHeld2
          try simp only [List.getElem_toArray, List.getElem_cons_zero, List.getElem_cons_succ, Act.put, List.setIfInBounds_toArray, List.set_cons_zero, List.set_cons_succ]
          refine wpAnyL_take (i := 9) (v := ?_) rfl (by kernel_rfl) (by kernel_rfl) (by kernel_rfl) (by rfl) (fun _ _ _ h => h) (Or.inl ⟨by rfl, ?_⟩) hHeld (fun hHeld2 => ?_)
          rotate_left
          · (intro wz hSw; go_simp; try with_reducible rfl)
          clear hHeld; have hHeld := hHeld2; clear hHeld2
          try simp only [List.getElem_toArray, List.getElem_cons_zero, List.getElem_cons_succ, Act.put, List.setIfInBounds_toArray, List.set_cons_zero, List.set_cons_succ]
          refine wpAnyL_take (i := 10) (v := ?_) rfl (by kernel_rfl) (by kernel_rfl) (by kernel_rfl) (by rfl) (fun _ _ _ h => h) (Or.inl ⟨by rfl, ?_⟩) hHeld (fun hHeld2 => ?_)
          rotate_left
          · (intro wz hSw; go_simp; try with_reducible rfl)
          clear hHeld; have hHeld := hHeld2; clear hHeld2
          try simp only [List.getElem_toArray, List.getElem_cons_zero, List.getElem_cons_succ, Act.put, List.setIfInBounds_toArray, List.set_cons_zero, List.set_cons_succ]
          refine wpAnyL_take (i := 11) (v := ?_) rfl (by kernel_rfl) (by kernel_rfl) (by kernel_rfl) (by rfl) (fun _ _ _ h => h) (Or.inl ⟨by rfl, ?_⟩) hHeld (fun hHeld2 => ?_)
          rotate_left
          · (intro wz hSw; have hq : wz.cell? ⟨g, 0, none⟩ = some (.int .i64 s) := hSw.get _ (List.Mem.tail _ (List.Mem.tail _ (List.Mem.head _))) 3 (by kernel_rfl); go_simp; try with_reducible rfl)
          clear hHeld; have hHeld := hHeld2; clear hHeld2
          try simp only [List.getElem_toArray, List.getElem_cons_zero, List.getElem_cons_succ, Act.put, List.setIfInBounds_toArray, List.set_cons_zero, List.set_cons_succ]
          refine wpAnyL_take (i := 12) (v := ?_) rfl (by kernel_rfl) (by kernel_rfl) (by kernel_rfl) (by rfl) (fun _ _ _ h => h) (Or.inl ⟨by rfl, ?_⟩) hHeld (fun hHeld2 => ?_)
          rotate_left
          · (intro wz hSw; go_simp; try with_reducible rfl)
          clear hHeld; have hHeld := hHeld2; clear hHeld2
          try simp only [List.getElem_toArray, List.getElem_cons_zero, List.getElem_cons_succ, Act.put, List.setIfInBounds_toArray, List.set_cons_zero, List.set_cons_succ]
          refine wpAnyL_one (i := 13) (by kernel_rfl) rfl rfl hHeld (fun K hK => ?_)
          go_simp
          refine hK.out _ _ (by intro p hp hl; simp only [List.mem_cons, List.not_mem_nil, or_false] at hp; rcases hp with rfl | rfl | rfl; exact c1; exact cz; exact c0) (fun hHeld2 => ?_)
          clear hHeld hK K ; have hHeld := hHeld2; clear hHeld2
          try simp only [List.setIfInBounds_toArray, List.set_cons_zero, List.set_cons_succ]
          refine wpAnyL_one (i := 14) (by kernel_rfl) rfl rfl hHeld (fun K hK => ?_)
          go_simp
          refine hK.out _ _ (by intro p hp hl; simp only [List.mem_cons, List.not_mem_nil, or_false] at hp; rcases hp with rfl | rfl | rfl <;> exact Bool.noConfusion (hl.symm.trans (show _ = true by kernel_rfl))) (fun hHeld2 => ?_)
          clear hHeld hK K hHeld2
          try simp only [List.getElem_toArray, List.getElem_cons_zero, List.getElem_cons_succ, Act.put]
          refine wpAnyL_done (by kernel_rfl) ?_ _
          go_wp2
          go_roundw
          case rel =>
            refine ⟨k' + 1, by omega, by simp, ?_, HOJ.out.trans ?_⟩
            · rw [TK.out, setAll_snoc]; exact HPUT.out
            · exact HPUT2.out
          case measure => simp [intOf]; omega
        · obtain rfl : j = m := by omega
          have t3 : decide ((j : Int) < (j : Int)) = false := by simp
          have HF := Lib.hid (show TakeR g r s fs (j : Int) w (.returned (.tuple #[.slice (some ⟨b', 0, none⟩) j cap, .int .i64 0])) wr from by
            refine ⟨(Only.of HB2.out).trans ((⟨hO.os, hO.tape, hO.output, hO.size, hO.block⟩ : Only r w2 wr)), .inr (.inr ⟨by omega, by rw [HZS.out, HLN.out]; omega, some ⟨b', 0, none⟩, cap, by rw [Int.toNat_natCast], ?_, ?_⟩)⟩
            · rw [HZS.out, Int.toNat_natCast]
              have hrow := HROW.out.2.only hO hb' (by have := HROW.out.1; omega)
              refine RowI.ints (fun i hi => ?_) (Nat.lt_of_lt_of_le hb' hO.size) (fun z hz => ?_)
              · rw [List.length_take] at hi
                rw [hrow i (by omega), List.getElem_take]
              · have := HFR.out z (List.mem_of_mem_take hz)
                unfold Z64; omega
            · rw [HZS.out, Int.toNat_natCast]; exact hR)
          clear hR hO
          go_wp2
          go_ret2
          exact HF.out
    · have t2 : decide (((frs s fs).length : Int) < n) = true := by simpa using hle
      have HNL := Lib.hid (show ((frs s fs).length : Int) < n by omega)
      generalize hN : (frs s fs).length = N at *
      have HLN := Lib.hid hN
      go_enter Try.func13, Try.ntmps13
      go_wp2_with fail
      refine CL.out.mono ?_
      rintro e w1 ⟨v1, rfl, ho1, hb1⟩
      obtain ⟨A1, c1, rfl, _, _, _⟩ := ho1.shape
      rw [hN]
      have HF := Lib.hid (show TakeR g r s fs n w (.returned (.tuple #[.slice none 0 0, .int .i64 34])) w1 from ⟨Only.of hb1, .inr (.inl ⟨by omega, by rw [HLN.out]; exact HNL.out, rfl, HR.out.below hb1⟩)⟩)
      clear ho1 hb1 CL
      go_wp2
      go_ret2
      exact HF.out
end Go.Proofs.Ytjeiechkndfhmaa
