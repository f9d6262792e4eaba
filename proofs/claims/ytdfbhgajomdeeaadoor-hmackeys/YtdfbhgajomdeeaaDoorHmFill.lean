/-
  Contract of hmac.filled: a key's 64 bytes. Conditions: the tables stand in their variables; the key has fewer than 2^60 bytes.
-/
import Derived.Test.YtdfbhgajomdeeaaDoorHmNum
import Derived.Test.YtdfbhgajomdeeaaDoorShaAwake
namespace Go.Proofs.YtdfbhgajomdeeaaDoor.Arr
open Go.RowKit
variable {P : Program} {t e : TypeId} {n : Nat} {k : IntKind}
/-- A whole array, as a slice. -/
theorem sliceW (o : Of P t e n k) (w : World) (g i : Nat) :
    (Instr.sliceAt t (.pointer (some ⟨g, i, none⟩)) none none none).run P w = .ok (.slice (some ⟨g, i, none⟩) n n) w := by
  rw [run_sliceAt_array_all w t _ o.under, o.size]
  have h0 : (⟨g, i, none⟩ : Addr).add 0 = ⟨g, i, none⟩ := by simp [Addr.add]
  simp only [Result.andThen_ok, slicedAt, o.arrayLen, Nat.zero_mul, h0, Nat.sub_zero]
  split <;> rfl
end Go.Proofs.YtdfbhgajomdeeaaDoor.Arr
namespace Go.Proofs.YtdfbhgajomdeeaaDoor
open Go.RowKit Arr Sh Hm

theorem z64b : (Tryd.prog.info? 25).bind (·.zero) = some (.agg (na .u8 (zs 64))) := by kernel_rfl
theorem info1_u8 : (Tryd.prog.info? 5).map (·.size) = some 1 := by kernel_rfl
theorem textOne (bs : List Nat) (A : Option Addr) (c : Nat) : textOf [⟨A, c, bs⟩] = bs := by simp [textOf]
/-- The two variables that filled begins with. -/
structure Fi (w w2 : World) (x : List Nat) : Prop where
  res : Holds w2 w.heap.size .u8 (zs 64)
  who : Holds w2 (w.heap.size + 1) .u8 x
  bel : Below w.heap.size w w2
theorem Fi.lt {w w2 : World} {x : List Nat} (h : Fi w w2 x) (hx : 0 < x.length) : w.heap.size + 1 < w2.heap.size := h.who.lt hx
theorem Fi.next {w w2 w3 : World} {x : List Nat} (h : Fi w w2 x) (hx : 0 < x.length) (hb : Below w2.heap.size w2 w3) : Fi w w3 x := by
  have := h.lt hx
  exact ⟨h.res.below hb (by omega), h.who.below hb this, h.bel.trans (hb.mono (by omega))⟩
theorem Fi.drew {w w2 : World} {x : List Nat} (h : Fi w w2 x) : Fi w w2.drew x := ⟨h.res.drew, h.who.drew, below_drew h.bel⟩
theorem Fi.copied {w w2 : World} (h : Fi w w2 (zs 64)) (m : List Nat) (hm : m.length ≤ 64) : Fi w (w2.setCells (w.heap.size + 1) 0 (nv .u8 m)) (spl (zs 64) 0 m) := by
  refine ⟨h.res.apart _ _ _ (by omega), ?_, below_setCells (by omega) _ _ _ h.bel⟩
  have := (Holds.at0 h.who).spliced 0 m (by rw [length_zs]; omega)
  exact this
theorem Fi.put {w w2 : World} {x : List Nat} (h : Fi w w2 x) (hx : x.length = 64) : Holds (w2.setCells w.heap.size 0 (nv .u8 x)) w.heap.size .u8 x ∧ Below w.heap.size w (w2.setCells w.heap.size 0 (nv .u8 x)) :=
  ⟨h.res.put x (by rw [hx, length_zs]), below_setCells (Nat.le_refl _) _ _ _ h.bel⟩
theorem Fi.new (w : World) : Fi w ((w.alloc (.cells (na .u8 (zs 64)) 25)).alloc (.cells (na .u8 (zs 64)) 25)) (zs 64) := by
  have s1 : (w.alloc (.cells (na .u8 (zs 64)) 25)).heap.size = w.heap.size + 1 := World.size_alloc ..
  have h2 := Holds.new (w.alloc (.cells (na .u8 (zs 64)) 25)) 25 .u8 (zs 64)
  rw [s1] at h2
  exact ⟨(Holds.new w 25 .u8 (zs 64)).alloc _, h2, (below_alloc w _).alloc (by rw [s1]; omega) _⟩

set_option maxHeartbeats 1000000 in
theorem filled_any (bs : List Nat) (A : Option Addr) (n c : Nat) (hl : bs.length = n) (hc : n ≤ c) (hn : n < 1152921504606846976) (w : World) (hv : VarsS w) (hb : Bys w w.heap.size A bs) :
    Calls Tryd.prog 14 #[.slice A n c] w (GivesB (fill bs) w) := by
  have F0 := Lib.hid (Fi.new w)
  have LF := length_fill bs
  by_cases hlong : 64 < n
  · have t1 : decide ((n : Int) > 64) = true := by simp; omega
    have t2 : decide (64 < (n : Int)) = true := by simp; omega
    have FL := Lib.hid (fill_spl_long (k := bs) (by omega))
    have LS := length_sum bs
    have CS : Go.RowKit.Hid (∀ w2, Fi w w2 (zs 64) → Calls Tryd.prog 21 #[.slice (some ⟨w2.heap.size, 0, none⟩) 1 1] (w2.alloc (.cells #[.slice A n c] 22)) (GivesB (Sh.sum bs) (w2.alloc (.cells #[.slice A n c] 22)))) := Lib.hid (fun w2 h2 => by
      have hB2 := h2.bel
      have P2 := Parts.new w2 22 [⟨A, c, bs⟩] (fun i hi => by
        obtain rfl : i = 0 := by simpa using hi
        exact ⟨by show bs.length ≤ c; omega, (hb.below hB2).more hB2.size⟩) #[.slice A n c] (by rw [← hl]; rfl)
      have := Sum_any _ (some ⟨w2.heap.size, 0, none⟩) 1 1 rfl (by omega) (by rw [textOne]; omega) _ P2 (hv.below (hB2.alloc hB2.size _) (Nat.le_refl _))
      rwa [textOne] at this)
    have hs1 := fun W : World => sliceW o64b W (w.heap.size + 1) 0
    clear hv hb hl
    generalize fill bs = fb at *
    generalize Sh.sum bs = sm at *
    go_enter Tryd.func14, Tryd.ntmps14
    go_upto_region 2 with (first | (with_reducible refine Arr.alloc (t := 25) _ z64b ?_) | fail)
    generalize (w.alloc (.cells (na .u8 (zs 64)) 25)).alloc (.cells (na .u8 (zs 64)) 25) = w2 at *
    have C2 := Lib.hid (CS.out w2 F0.out)
    have F3 := Lib.hid (F0.out.next (by rw [length_zs]; omega) (below_alloc w2 (.cells #[.slice A n c] 22)))
    clear F0 CS
    generalize hw3 : w2.alloc (.cells #[.slice A n c] 22) = w3 at *
    go_wp2_with fail
    clear hw3
    refine C2.out.mono ?_
    rintro e w4 ⟨rfl, hB4⟩
    have F4 := F3.out.next (by rw [length_zs]; omega) hB4
    have F5 := (F4.next (by rw [length_zs]; omega) (below_alloc w4 (.cells (na .u8 (zs 32)) 28)))
    have A5 := Holds.new w4 28 .u8 (zs 32)
    have A6 := A5.put sm (by rw [LS, length_zs])
    have hlt := F4.lt (by rw [length_zs]; omega)
    have F6 : Fi w ((w4.alloc (.cells (na .u8 (zs 32)) 28)).setCells w4.heap.size 0 (nv .u8 sm)) (zs 64) := ⟨F5.res.apart _ _ _ (by omega), F5.who.apart _ _ _ (by omega), below_setCells (by omega) _ _ _ F5.bel⟩
    have H5 := Lib.hid A5
    have H6 := Lib.hid A6
    have HF := Lib.hid F6
    clear F4 F5 F6 A5 A6 hB4 C2 F3
    go_upto_region 4 with (first | (with_reducible refine Arr.alloc (t := 28) _ z32 ?_) | (with_reducible refine Arr.store o32 w4.heap.size (zs 32) sm (length_zs _) H5.out LS rfl rfl ?_) | fail)
    generalize (w4.alloc (.cells (na .u8 (zs 32)) 28)).setCells w4.heap.size 0 (nv .u8 sm) = w6 at *
    clear H5
    have hs2 := fun W : World => sliceW o32 W w4.heap.size 0
    generalize w4.heap.size = g at *
    refine region_tail 2 (by kernel_rfl) (by kernel_rfl) ?_
    intro wd hwd
    have K6 : Holds wd g .u8 sm := by rw [hwd]; exact H6.out.drew
    have KF : Fi w wd (zs 64) := by rw [hwd]; exact HF.out.drew
    clear hwd H6 HF
    have CN := run_copy_bytes (P := Tryd.prog) wd 22 22 3 5 Tryd.underlying22 info1_u8 (w.heap.size + 1) 0 64 64 g 0 32 32 (zs 64) sm (Holds.at0 KF.who) (by rw [LS]; rfl) (by rw [LS, length_zs]; omega) (fun i hi => by rw [Nat.zero_add]; exact K6.cell i hi)
    have X1 := Lib.hid (KF.copied sm (by omega))
    rw [← FL.out] at X1
    have HCN := Lib.hid CN
    clear CN KF K6
    simp only [List.take_succ_cons, List.take_zero, List.drop_succ_cons, List.drop_zero]
    repeat still_step
    refine wpStill_nil ?_
    go_wp2_with (first | (with_reducible refine Arr.list_copy (.slice (some ⟨w.heap.size + 1, 0, none⟩) 64 64) (.slice (some ⟨g, 0, none⟩) 32 32) _ (wd.setCells (w.heap.size + 1) 0 (nv .u8 sm)) rfl rfl HCN.out ?_) | (with_reducible refine Arr.load o64b (w.heap.size + 1) fb LF X1.out.who rfl ?_) | (with_reducible refine Arr.store o64b w.heap.size (zs 64) fb (length_zs _) X1.out.res LF rfl rfl ?_) | fail)
    have X2 := X1.out.put LF
    exact bodyPost_ret (v := .agg (na .u8 fb)) (results_arr o64b rfl _ _ w.heap.size fb LF X2.1 rfl) rfl ⟨rfl, X2.2⟩
  · have t1 : decide ((n : Int) > 64) = false := by simp; omega
    have t2 : decide (64 < (n : Int)) = false := by simp; omega
    have FL := Lib.hid (fill_spl_short (k := bs) (by omega))
    have hs1 := fun W : World => sliceW o64b W (w.heap.size + 1) 0
    have CN : Go.RowKit.Hid (∀ w2, Fi w w2 (zs 64) → (Builtin.copy_ #[22, 22] 3 #[.slice (some ⟨w.heap.size + 1, 0, none⟩) 64 64, .slice A n c]).run Tryd.prog w2 = .ok (goInt n) (w2.setCells (w.heap.size + 1) 0 (nv .u8 bs))) := Lib.hid (fun w2 h2 => by
      rcases Nat.eq_zero_or_pos n with h0 | h0
      · have : bs = [] := List.eq_nil_of_length_eq_zero (by omega)
        subst this h0
        exact run_copy_none w2 _ _ _ 5 _ _ _ _ _ _ Tryd.underlying22 info1_u8 (by simp)
      · obtain ⟨b, off, rfl, hbl, hcell⟩ := (hb.below h2.bel).2 (by omega)
        have := run_copy_bytes (P := Tryd.prog) w2 22 22 3 5 Tryd.underlying22 info1_u8 (w.heap.size + 1) 0 64 64 b off n c (zs 64) bs (Holds.at0 h2.who) (by rw [hl]; exact (Nat.min_eq_left (by omega)).symm) (by rw [hl, length_zs]; omega) hcell
        rwa [hl] at this)
    have X1 : Go.RowKit.Hid (∀ w2, Fi w w2 (zs 64) → Fi w (w2.setCells (w.heap.size + 1) 0 (nv .u8 bs)) (fill bs)) := Lib.hid (fun w2 h2 => by
      rw [FL.out]; exact h2.copied bs (by omega))
    clear hv hb hl FL
    generalize fill bs = fb at *
    go_enter Tryd.func14, Tryd.ntmps14
    go_upto_region 2 with (first | (with_reducible refine Arr.alloc (t := 25) _ z64b ?_) | fail)
    generalize (w.alloc (.cells (na .u8 (zs 64)) 25)).alloc (.cells (na .u8 (zs 64)) 25) = w2 at *
    have C2 := Lib.hid (CN.out w2 F0.out)
    have X2 := Lib.hid (X1.out w2 F0.out)
    clear CN X1 F0
    go_wp2_with (first | (with_reducible refine Arr.list_copy (.slice (some ⟨w.heap.size + 1, 0, none⟩) 64 64) (.slice A n c) _ (w2.setCells (w.heap.size + 1) 0 (nv .u8 bs)) rfl rfl C2.out ?_) | (with_reducible refine Arr.load o64b (w.heap.size + 1) fb LF X2.out.who rfl ?_) | (with_reducible refine Arr.store o64b w.heap.size (zs 64) fb (length_zs _) X2.out.res LF rfl rfl ?_) | fail)
    have X3 := X2.out.put LF
    exact bodyPost_ret (v := .agg (na .u8 fb)) (results_arr o64b rfl _ _ w.heap.size fb LF X3.1 rfl) rfl ⟨rfl, X3.2⟩
end Go.Proofs.YtdfbhgajomdeeaaDoor
