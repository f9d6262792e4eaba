/-
  The walk of the law ExtentChains. Condition: the slice holds the extents. (Written by tools/gen_exchains.py.)
-/
import Derived.Test.YtgbhmjfhblganaaExParts
import Derived.Test.YtgbhmjfhblganaaExHas
import Derived.Test.YtgbhmjfhblganaaExCut
import Derived.Test.YtgbhmjfhblganaaExRef
import Derived.Test.YtgbhmjfhblganaaExAwake
import Derived.Test.YtgbhmjfhblganaaHeldOne
import Derived.Test.YtgbhmjfhblganaaRowExt
namespace Go.Proofs.Ytgbhmjfhblganaa
open Go.RowKit Arr Ex
set_option linter.unusedSimpArgs false

/-- The law answers true, and what was there is as it was. -/
def TrueC (w : World) (e : Ending) (w' : World) : Prop := e = .returned (.bool true) ∧ Below w.heap.size w w'
/-- What lies in memory when the parts are told. -/
structure AtEnd (w wr : World) (l : List (Int × Int)) (n : Int) (nn : Nat) (Ah At Az At' Az' : Option Addr) : Prop where
  be : Below w.heap.size w wr
  eh : Exts wr wr.heap.size Ah (hdL n l)
  et : Exts wr wr.heap.size At (tlL n l)
  zt : IntsI wr wr.heap.size At' ((secs l).take nn)
  zd : IntsI wr wr.heap.size Az' ((secs l).drop nn)
theorem AtEnd.put {w wr w' : World} {l : List (Int × Int)} {n : Int} {nn : Nat} {Ah At Az At' Az' : Option Addr} (h : AtEnd w wr l n nn Ah At Az At' Az') (hb : Below wr.heap.size wr w') : AtEnd w w' l n nn Ah At Az At' Az' :=
  ⟨h.be.trans (hb.mono h.be.size), h.eh.later hb, h.et.later hb, h.zt.later hb, h.zd.later hb⟩
/-- What holds of both parts. -/
structure PartsOf (l : List (Int × Int)) (n : Int) (nn L : Nat) : Prop where
  mh : ∀ x, x ∈ hdL n l → may x = true
  mt : ∀ x, x ∈ tlL n l → may x = true
  th : total (hdL n l) ≤ 100000
  tt : total (tlL n l) ≤ 100000
  sh : secs (hdL n l) = (secs l).take nn
  st : secs (tlL n l) = (secs l).drop nn
  lt : ((secs l).take nn).length = nn
  ld : ((secs l).drop nn).length = L - nn
  le : nn ≤ L
  kh : chain (hdL n l) = true
  kt : chain (tlL n l) = true
theorem partsOf {l : List (Int × Int)} {n : Int} {nn L : Nat} (hc : Chn l) (hn : n = (nn : Int)) (hL : (secs l).length = L) (hle : nn ≤ L) (hT : L ≤ 4000) : PartsOf l n nn L := by
  subst hn
  have h0 : (0 : Int) ≤ (nn : Int) := by omega
  have ch := chn_hdL l nn h0 hc
  have ct := chn_tlL l nn h0 hc
  have sh : secs (hdL nn l) = (secs l).take nn := by rw [secs_hdL l _ h0 hc.1, Int.toNat_natCast]
  have st : secs (tlL nn l) = (secs l).drop nn := by rw [secs_tlL l _ h0 hc.1, Int.toNat_natCast]
  have th := total_secs (hdL nn l) (fun x hx => by have := (may_iff x).1 (ch.1 x hx); omega)
  have tt := total_secs (tlL nn l) (fun x hx => by have := (may_iff x).1 (ct.1 x hx); omega)
  rw [sh, List.length_take] at th
  rw [st, List.length_drop] at tt
  exact ⟨ch.1, ct.1, by omega, by omega, sh, st, by rw [List.length_take]; omega, by rw [List.length_drop]; omega, hle, (chain_iff _).2 ch, (chain_iff _).2 ct⟩
theorem pe1 (w : World) (A0 : Option Addr) (n0 c0 : Nat) (a : List (Int × Int)) (h0 : a.length = n0) :
    ∀ (i : Nat) (p : Pe), ([⟨A0, c0, a⟩] : List Pe)[i]? = some p → (w.alloc (.cells #[.slice A0 n0 c0] 22)).cell? ⟨w.heap.size, i, none⟩ = some (.slice p.A p.l.length p.c) := fun i p h => by
  subst h0
  rw [World.cell?_alloc_new]
  match i, h with
  | 0, h => simp only [List.getElem?_cons_zero, Option.some.injEq] at h; subst h; rfl
  | i + 1, h => simp at h
set_option maxRecDepth 100000 in
set_option maxHeartbeats 8000000 in
theorem chains_walk (w : World) (A : Option Addr) (N c : Nat) (l : List (Int × Int)) (hl : l.length = N) (_hc : N ≤ c) (hA : A = none → c = 0) (hb : Exts w w.heap.size A l) (n : Int) (hz : -9223372036854775808 ≤ n ∧ n ≤ 9223372036854775807) (u : Int) (hu : -9223372036854775808 ≤ u ∧ u ≤ 9223372036854775807) :
    Calls Try.prog 4 #[.slice A N c, .int .i64 n, .int .i64 u] w (TrueC w) := by
  have mixed : Try.prog.follows .mixedOrders = true := by kernel_rfl
  have HA := Lib.hid hb
  have HL := Lib.hid hl
  have HN := Lib.hid hA
  have HZ := Lib.hid hz
  have HU := Lib.hid hu
  clear hb hl hA hz hu
  have CA := Lib.hid (awake_any w)
  go_enter Try.func4, Try.ntmps4
  go_wp2_with fail
  refine CA.out.mono ?_
  rintro e w1 ⟨rfl, hb⟩
  have hal := below_alloc w1 (.cells #[.slice A N c] 22)
  have HW2 := Lib.hid (hb.trans (hal.mono hb.size))
  have CF := Lib.hid (few_any (w1.alloc (.cells #[.slice A N c] 22)) w1.heap.size 1 [⟨A, c, l⟩] rfl (by omega) (by simp) (pe1 w1 A N c l HL.out) (fun p hp => by
    simp only [List.mem_cons, List.not_mem_nil, or_false] at hp
    subst hp
    exact (HA.out.below HW2.out).more HW2.out.size))
  clear hb hal CA
  go_wp2_with fail
  refine CF.out.mono ?_
  rintro e w3 ⟨f, rfl, hf, hb3⟩
  have HW3 := Lib.hid (HW2.out.trans (hb3.mono HW2.out.size))
  clear hb3 CF
  cases f with
  | false =>
    clear hf
    go_wp2
    go_ret
    exact ⟨rfl, HW3.out⟩
  | true =>
    have hfew := hf.1 rfl
    have fa : FewE l := hfew _ (List.mem_cons_self ..)
    have hN : N ≤ 20 := by have := fa.1; have := HL.out; omega
    have HFE := Lib.hid fa
    clear hf hfew fa
    have CC := Lib.hid (cut_any w3 A N c l HL.out HN.out (by omega) ((HA.out.below HW3.out).more HW3.out.size) n HZ.out)
    go_wp2_with fail
    refine CC.out.mono ?_
    rintro e w4 ⟨vh, vt, h, t, rfl, hoh, hot, hb4, hok, hno⟩
    have HW4 := Lib.hid (HW3.out.trans (hb4.mono HW3.out.size))
    have HOH := Lib.hid hoh
    have HOT := Lib.hid hot
    have HOK := Lib.hid (And.intro hok hno)
    have CT := Lib.hid (at_any w4 A N c l HL.out HN.out (by omega) ((HA.out.below HW4.out).more HW4.out.size) n HZ.out)
    clear hoh hot hb4 hok hno CC
    go_wp2_with fail
    refine CT.out.mono ?_
    rintro e w5 ⟨s, is, rfl, hat, hb5⟩
    have HW5 := Lib.hid (HW4.out.trans (hb5.mono HW4.out.size))
    have HOH5 := Lib.hid (HOH.out.below hb5)
    have HOT5 := Lib.hid (HOT.out.below hb5)
    have HAT := Lib.hid hat
    have CR := Lib.hid (rchain_any w5 A c N l HL.out ((HA.out.below HW5.out).more HW5.out.size) (by omega))
    clear hb5 hat CT HOH HOT
    by_cases hch : chain l = true
    · rw [hch] at CR
      have hcn := (chain_iff l).1 hch
      have HCN := Lib.hid hcn
      have htot := fewE_total HFE.out hcn.1
      have HTOT := Lib.hid htot
      go_wp2_with fail
      refine CR.out.mono ?_
      rintro e w6 ⟨rfl, hb6⟩
      have HW6 := Lib.hid (HW5.out.trans (hb6.mono HW5.out.size))
      have HOH6 := Lib.hid (HOH5.out.below hb6)
      have HOT6 := Lib.hid (HOT5.out.below hb6)
      have CS := Lib.hid (rsectors_any w6 A N c l HL.out (by omega) hcn.1 (by omega) ((HA.out.below HW6.out).more HW6.out.size))
      clear hb6 CR HOH5 HOT5
      go_wp2_with fail
      refine CS.out.mono ?_
      rintro e w7 ⟨vz, rfl, hoz, hb7⟩
      obtain ⟨Az, cz, rfl, hcz, _, hiz⟩ := hoz.shape
      have HW7 := Lib.hid (HW6.out.trans (hb7.mono HW6.out.size))
      have HOH7 := Lib.hid (HOH6.out.below hb7)
      have HOT7 := Lib.hid (HOT6.out.below hb7)
      have HI7 := Lib.hid (hiz (secs_z64 hcn.1))
      have hls := total_secs l (fun x hx => by have := (may_iff x).1 (hcn.1 x hx); omega)
      have HTC := Lib.hid (show totC l = total l by unfold totC; rw [if_pos hch])
      have C8 := Lib.hid (total_any w7 A c N l HL.out HN.out (by omega) ((HA.out.below HW7.out).more HW7.out.size))
      rw [HTC.out, ← hls] at C8
      have HCT := Lib.hid (show ∀ m : Int, cutOk l m = (decide (0 ≤ m) && decide (m ≤ ((secs l).length : Int))) from fun m => by unfold cutOk; rw [hch, hls]; rfl)
      have HAL := Lib.hid (show ∀ m : Int, atL l m = if 0 ≤ m then (secs l)[m.toNat]? else none from fun m => by
        unfold atL
        by_cases h0 : 0 ≤ m
        · rw [if_pos ⟨hch, h0⟩, if_pos h0]
        · rw [if_neg (fun h => h0 h.2), if_neg h0])
      have hL4 : (secs l).length ≤ 4000 := by omega
      have HCL := Lib.hid hch
      clear hoz hb7 hiz CS HOH6 HOT6 hls htot hcn hch
      have HLEN := Lib.hid (show (secs l).length = (secs l).length from rfl)
      generalize hLL : (secs l).length = L at C8 HCT HLEN hL4 hcz ⊢
      have HLL := Lib.hid hLL
      have LZ := Lib.hid hL4
      clear hLL HLEN
      go_wp2_with fail
      refine C8.out.mono ?_
      rintro e w8 ⟨rfl, hb8⟩
      have HW8 := Lib.hid (HW7.out.trans (hb8.mono HW7.out.size))
      have HOH8 := Lib.hid (HOH7.out.below hb8)
      have HOT8 := Lib.hid (HOT7.out.below hb8)
      have HI8 := Lib.hid (HI7.out.later hb8)
      have C9 := Lib.hid (has_any w8 A N c u l HL.out (by omega) ((HA.out.below HW8.out).more HW8.out.size) HU.out)
      rw [hasL_secs HCN.out.1] at C9
      have hneq : decide (¬ (L : Int) = (L : Int)) = false := by simp
      have heq : decide ((L : Int) = (L : Int)) = true := by simp
      clear hb8 C8 HOH7 HOT7 HI7
      generalize hbb : decide (u ∈ secs l) = bb at C9
      have HBB := Lib.hid hbb
      clear hbb
      go_wp2_with fail
      refine C9.out.mono ?_
      rintro e w9 ⟨rfl, hb9⟩
      have HW9 := Lib.hid (HW8.out.trans (hb9.mono HW8.out.size))
      have HOH9 := Lib.hid (HOH8.out.below hb9)
      have HOT9 := Lib.hid (HOT8.out.below hb9)
      have HI9 := Lib.hid (HI8.out.later hb9)
      have C10 := Lib.hid (rin_any w9 Az L cz _ (secs l) HLL.out (by omega) HI9.out u)
      rw [HBB.out] at C10
      clear hb9 C9 HOH8 HOT8 HI8
      go_wp2_with fail
      refine C10.out.mono ?_
      rintro e w10 ⟨rfl, rfl⟩
      clear C10 heq hneq
      by_cases h0 : 0 ≤ n
      · obtain ⟨nn, rfl⟩ : ∃ nn : Nat, n = (nn : Int) := ⟨n.toNat, by omega⟩
        have u0 : decide ((nn : Int) ≥ 0) = true := by simp
        have hal := HAL.out (nn : Int)
        rw [if_pos h0, Int.toNat_natCast] at hal
        by_cases hnL : nn ≤ L
        · have hck : cutOk l (nn : Int) = true := by rw [HCT.out]; simp; omega
          obtain ⟨rfl, rfl⟩ := HOK.out.1 hck
          rw [hck]
          obtain ⟨Ah, ch, rfl, _, _, _, hxh⟩ := HOH9.out.shape
          obtain ⟨At, ct, rfl, _, _, _, hxt⟩ := HOT9.out.shape
          have PF := Lib.hid (partsOf (n := (nn : Int)) HCN.out rfl HLL.out hnL LZ.out)
          obtain ⟨At', hs1, hz1⟩ := ints_to HI9.out HLL.out hcz nn hnL
          obtain ⟨Az', hs2, hz2⟩ := ints_from HI9.out HLL.out hcz nn hnL
          have LN := Lib.hid (show (hdL (nn : Int) l).length + (tlL (nn : Int) l).length ≤ N + 1 from by have := length_cut l (nn : Int) h0 HCN.out.1; have := HL.out; omega)
          have E := Lib.hid (show AtEnd w w10 l (nn : Int) nn Ah At Az At' Az' from ⟨HW9.out, hxh (fun x hx => i64_may (PF.out.mh x hx)), hxt (fun x hx => i64_may (PF.out.mt x hx)), hz1, hz2⟩)
          have u4 : decide ((nn : Int) ≤ (L : Int)) = true := by simp; exact hnL
          clear hxh hxt hz1 hz2 HOH9 HOT9
          by_cases hlt : nn < L
          · obtain ⟨za, hza⟩ : ∃ z, (secs l)[nn]? = some z := ⟨_, List.getElem?_eq_getElem (by rw [HLL.out]; exact hlt)⟩
            rw [hza] at hal
            have ha := HAT.out
            rw [hal] at ha
            obtain ⟨rfl, rfl⟩ := ha
            obtain ⟨bz, oz, rfl, _, hcell⟩ := HI9.out.2 (by rw [HLL.out]; omega)
            have q0 := hcell nn (by rw [HLL.out]; exact hlt)
            rw [show (secs l).getD nn 0 = s from by simp [hza]] at q0
            have u1 : decide ((nn : Int) < (L : Int)) = true := by simp; exact hlt
            have u2 : decide (¬ s = s) = false := by simp
            clear hcell hal hza hck
            have hiL : (nn : Int) < (L : Int) := by omega
            go_wp2_with fail
            generalize w10 = wr at *
            clear q0
            generalize hnz : ((nn : Nat) : Int) = n at *
            generalize hAzz : (some ⟨bz, oz, none⟩ : Option Addr) = Az at *
            refine wp_region_L [] 34 #[false, false, false, false, false, false, false, false, false, false, false, false, false, false, false, false, false, false, false, false, false, false, false, false, false, false, false, false, false, false, false, false, false, false] (by kernel_rfl) (by rfl) (by kernel_rfl) (by intro p hp; cases hp) (fun hHeld => ?_)
            refine wpAnyL_take (i := 0) (v := ?_) rfl (by kernel_rfl) (by kernel_rfl) (by kernel_rfl) (by rfl) (fun _ _ _ h => h) (Or.inl ⟨by rfl, ?_⟩) hHeld (fun hHeld2 => ?_)
            rotate_left
            · (intro wz hSw; go_simp; try with_reducible rfl)
            clear hHeld; have hHeld := hHeld2; clear hHeld2
            try simp only [List.getElem_toArray, List.getElem_cons_zero, List.getElem_cons_succ, Act.put, List.setIfInBounds_toArray, List.set_cons_zero, List.set_cons_succ]
            refine wpAnyL_take (i := 2) (v := ?_) rfl (by kernel_rfl) (by kernel_rfl) (by kernel_rfl) (by rfl) (fun _ _ _ h => h) (Or.inl ⟨by rfl, ?_⟩) hHeld (fun hHeld2 => ?_)
            rotate_left
            · (intro wz hSw; go_simp; try with_reducible rfl)
            clear hHeld; have hHeld := hHeld2; clear hHeld2
            try simp only [List.getElem_toArray, List.getElem_cons_zero, List.getElem_cons_succ, Act.put, List.setIfInBounds_toArray, List.set_cons_zero, List.set_cons_succ]
            refine wpAnyL_take (i := 3) (v := ?_) rfl (by kernel_rfl) (by kernel_rfl) (by kernel_rfl) (by rfl) (fun _ _ _ h => h) (Or.inl ⟨by rfl, ?_⟩) hHeld (fun hHeld2 => ?_)
            rotate_left
            · (intro wz hSw; go_simp; try with_reducible rfl)
            clear hHeld; have hHeld := hHeld2; clear hHeld2
            try simp only [List.getElem_toArray, List.getElem_cons_zero, List.getElem_cons_succ, Act.put, List.setIfInBounds_toArray, List.set_cons_zero, List.set_cons_succ]
            refine wpAnyL_take (i := 4) (v := ?_) rfl (by kernel_rfl) (by kernel_rfl) (by kernel_rfl) (by rfl) (fun _ _ _ h => h) (Or.inl ⟨by rfl, ?_⟩) hHeld (fun hHeld2 => ?_)
            rotate_left
            · (intro wz hSw; go_simp; try with_reducible rfl)
            clear hHeld; have hHeld := hHeld2; clear hHeld2
            try simp only [List.getElem_toArray, List.getElem_cons_zero, List.getElem_cons_succ, Act.put, List.setIfInBounds_toArray, List.set_cons_zero, List.set_cons_succ]
            have E0 := Lib.hid (E.out.put (below_drew (Below.refl wr.heap.size wr)))
            clear E
            generalize wr.drew = wd at *
            have hHeld2 := asked_none (w' := wd) hHeld
            clear hHeld; have hHeld := hHeld2; clear hHeld2
            have C1 := Lib.hid (rsectors_any wd Ah (hdL n l).length ch (hdL n l) rfl (by have := LN.out; omega) PF.out.mh PF.out.th E0.out.eh)
            refine wpAnyL_oneW (i := 1) (by kernel_rfl) rfl (by rfl) hHeld (fun K hK => ?_)
            go_simp
            refine C1.out.mono ?_
            rintro e w1 ⟨v1, rfl, ho1, hb1⟩
            have E1 := Lib.hid (E0.out.put hb1)
            obtain ⟨A1, c1, rfl, _, _, hi1⟩ := ho1.shape
            have I1 := Lib.hid (hi1 (secs_z64 PF.out.mh))
            have C2 := Lib.hid (ints_any w1 A1 At' (secs (hdL n l)).length c1 nn cz _ _ (secs (hdL n l)) ((secs l).take nn) rfl PF.out.lt (by rw [PF.out.sh, PF.out.lt]; have := PF.out.le; have := LZ.out; omega) I1.out E1.out.zt)
            rw [show decide (secs (hdL n l) = (secs l).take nn) = true from by rw [PF.out.sh]; simp] at C2
            clear ho1 hb1 hi1 C1 E0
            refine hK.out _ _ (by intro p hp; cases hp) (fun hHeld2 => ?_)
            clear hHeld hK K ; have hHeld := hHeld2; clear hHeld2
            try simp only [List.getElem_toArray, List.getElem_cons_zero, List.getElem_cons_succ, Act.put, List.setIfInBounds_toArray, List.set_cons_zero, List.set_cons_succ]
            refine wpAnyL_oneW (i := 5) (by kernel_rfl) rfl (by rfl) hHeld (fun K hK => ?_)
            go_simp
            refine C2.out.mono ?_
            rintro e w2 ⟨rfl, q2, rfl⟩
            have E2 := Lib.hid (E1.out.put (below_drewN_self w1 q2))
            clear E1 C2 I1
            refine hK.out _ _ (by intro p hp; cases hp) (fun hHeld2 => ?_)
            clear hHeld hK K ; have hHeld := hHeld2; clear hHeld2
            try simp only [List.getElem_toArray, List.getElem_cons_zero, List.getElem_cons_succ, Act.put, List.setIfInBounds_toArray, List.set_cons_zero, List.set_cons_succ]
            generalize w1.drewN q2 = w2 at *
            have hHeld2 := asked_none (w' := w2) hHeld
            clear hHeld; have hHeld := hHeld2; clear hHeld2
            refine wpAnyL_take (i := 6) (v := ?_) rfl (by kernel_rfl) (by kernel_rfl) (by kernel_rfl) (by rfl) (fun _ _ _ h => h) (Or.inl ⟨by rfl, ?_⟩) hHeld (fun hHeld2 => ?_)
            rotate_left
            · (intro wz hSw; go_simp; try with_reducible rfl)
            clear hHeld; have hHeld := hHeld2; clear hHeld2
            try simp only [List.getElem_toArray, List.getElem_cons_zero, List.getElem_cons_succ, Act.put, List.setIfInBounds_toArray, List.set_cons_zero, List.set_cons_succ]
            refine wpAnyL_take (i := 7) (v := ?_) rfl (by kernel_rfl) (by kernel_rfl) (by kernel_rfl) (by rfl) (fun _ _ _ h => h) (Or.inl ⟨by rfl, ?_⟩) hHeld (fun hHeld2 => ?_)
            rotate_left
            · (intro wz hSw; go_simp; try with_reducible rfl)
            clear hHeld; have hHeld := hHeld2; clear hHeld2
            try simp only [List.getElem_toArray, List.getElem_cons_zero, List.getElem_cons_succ, Act.put, List.setIfInBounds_toArray, List.set_cons_zero, List.set_cons_succ]
            refine wpAnyL_take (i := 9) (v := ?_) rfl (by kernel_rfl) (by kernel_rfl) (by kernel_rfl) (by rfl) (fun _ _ _ h => h) (Or.inl ⟨by rfl, ?_⟩) hHeld (fun hHeld2 => ?_)
            rotate_left
            · (intro wz hSw; go_simp; try with_reducible rfl)
            clear hHeld; have hHeld := hHeld2; clear hHeld2
            try simp only [List.getElem_toArray, List.getElem_cons_zero, List.getElem_cons_succ, Act.put, List.setIfInBounds_toArray, List.set_cons_zero, List.set_cons_succ]
            refine wpAnyL_take (i := 10) (v := ?_) rfl (by kernel_rfl) (by kernel_rfl) (by kernel_rfl) (by rfl) (fun _ _ _ h => h) (Or.inl ⟨by rfl, ?_⟩) hHeld (fun hHeld2 => ?_)
            rotate_left
            · (intro wz hSw; go_simp; try with_reducible rfl)
            clear hHeld; have hHeld := hHeld2; clear hHeld2
            try simp only [List.getElem_toArray, List.getElem_cons_zero, List.getElem_cons_succ, Act.put, List.setIfInBounds_toArray, List.set_cons_zero, List.set_cons_succ]
            refine wpAnyL_take (i := 11) (v := ?_) rfl (by kernel_rfl) (by kernel_rfl) (by kernel_rfl) (by rfl) (fun _ _ _ h => h) (Or.inl ⟨by rfl, ?_⟩) hHeld (fun hHeld2 => ?_)
            rotate_left
            · (intro wz hSw; go_simp; try with_reducible rfl)
            clear hHeld; have hHeld := hHeld2; clear hHeld2
            try simp only [List.getElem_toArray, List.getElem_cons_zero, List.getElem_cons_succ, Act.put, List.setIfInBounds_toArray, List.set_cons_zero, List.set_cons_succ]
            have C3 := Lib.hid (rsectors_any w2 At (tlL n l).length ct (tlL n l) rfl (by have := LN.out; omega) PF.out.mt PF.out.tt E2.out.et)
            refine wpAnyL_oneW (i := 8) (by kernel_rfl) rfl (by rfl) hHeld (fun K hK => ?_)
            go_simp
            refine C3.out.mono ?_
            rintro e w3 ⟨v3, rfl, ho3, hb3⟩
            have E3 := Lib.hid (E2.out.put hb3)
            obtain ⟨A3, c3, rfl, _, _, hi3⟩ := ho3.shape
            have I3 := Lib.hid (hi3 (secs_z64 PF.out.mt))
            have C4 := Lib.hid (ints_any w3 A3 Az' (secs (tlL n l)).length c3 (L - nn) (cz - nn) _ _ (secs (tlL n l)) ((secs l).drop nn) rfl PF.out.ld (by rw [PF.out.st, PF.out.ld]; have := PF.out.le; have := LZ.out; omega) I3.out E3.out.zd)
            rw [show decide (secs (tlL n l) = (secs l).drop nn) = true from by rw [PF.out.st]; simp] at C4
            clear ho3 hb3 hi3 C3 E2
            refine hK.out _ _ (by intro p hp; cases hp) (fun hHeld2 => ?_)
            clear hHeld hK K ; have hHeld := hHeld2; clear hHeld2
            try simp only [List.getElem_toArray, List.getElem_cons_zero, List.getElem_cons_succ, Act.put, List.setIfInBounds_toArray, List.set_cons_zero, List.set_cons_succ]
            refine wpAnyL_oneW (i := 12) (by kernel_rfl) rfl (by rfl) hHeld (fun K hK => ?_)
            go_simp
            refine C4.out.mono ?_
            rintro e w4 ⟨rfl, q4, rfl⟩
            have E4 := Lib.hid (E3.out.put (below_drewN_self w3 q4))
            clear E3 C4 I3
            refine hK.out _ _ (by intro p hp; cases hp) (fun hHeld2 => ?_)
            clear hHeld hK K ; have hHeld := hHeld2; clear hHeld2
            try simp only [List.getElem_toArray, List.getElem_cons_zero, List.getElem_cons_succ, Act.put, List.setIfInBounds_toArray, List.set_cons_zero, List.set_cons_succ]
            generalize w3.drewN q4 = w4 at *
            have hHeld2 := asked_none (w' := w4) hHeld
            clear hHeld; have hHeld := hHeld2; clear hHeld2
            have C5 := Lib.hid (rchain_any w4 Ah ch (hdL n l).length (hdL n l) rfl E4.out.eh (by have := LN.out; omega))
            rw [PF.out.kh] at C5
            refine wpAnyL_take (i := 13) (v := ?_) rfl (by kernel_rfl) (by kernel_rfl) (by kernel_rfl) (by rfl) (fun _ _ _ h => h) (Or.inl ⟨by rfl, ?_⟩) hHeld (fun hHeld2 => ?_)
            rotate_left
            · (intro wz hSw; go_simp; try with_reducible rfl)
            clear hHeld; have hHeld := hHeld2; clear hHeld2
            try simp only [List.getElem_toArray, List.getElem_cons_zero, List.getElem_cons_succ, Act.put, List.setIfInBounds_toArray, List.set_cons_zero, List.set_cons_succ]
            refine wpAnyL_take (i := 14) (v := ?_) rfl (by kernel_rfl) (by kernel_rfl) (by kernel_rfl) (by rfl) (fun _ _ _ h => h) (Or.inl ⟨by rfl, ?_⟩) hHeld (fun hHeld2 => ?_)
            rotate_left
            · (intro wz hSw; go_simp; try with_reducible rfl)
            clear hHeld; have hHeld := hHeld2; clear hHeld2
            try simp only [List.getElem_toArray, List.getElem_cons_zero, List.getElem_cons_succ, Act.put, List.setIfInBounds_toArray, List.set_cons_zero, List.set_cons_succ]
            refine wpAnyL_take (i := 15) (v := ?_) rfl (by kernel_rfl) (by kernel_rfl) (by kernel_rfl) (by rfl) (fun _ _ _ h => h) (Or.inl ⟨by rfl, ?_⟩) hHeld (fun hHeld2 => ?_)
            rotate_left
            · (intro wz hSw; go_simp; try with_reducible rfl)
            clear hHeld; have hHeld := hHeld2; clear hHeld2
            try simp only [List.getElem_toArray, List.getElem_cons_zero, List.getElem_cons_succ, Act.put, List.setIfInBounds_toArray, List.set_cons_zero, List.set_cons_succ]
            refine wpAnyL_oneW (i := 16) (by kernel_rfl) rfl (by rfl) hHeld (fun K hK => ?_)
            go_simp
            refine C5.out.mono ?_
            rintro e w5 ⟨rfl, hb5⟩
            have E5 := Lib.hid (E4.out.put hb5)
            have C6 := Lib.hid (rchain_any w5 At ct (tlL n l).length (tlL n l) rfl E5.out.et (by have := LN.out; omega))
            rw [PF.out.kt] at C6
            clear hb5 C5 E4
            refine hK.out _ _ (by intro p hp; cases hp) (fun hHeld2 => ?_)
            clear hHeld hK K ; have hHeld := hHeld2; clear hHeld2
            try simp only [List.getElem_toArray, List.getElem_cons_zero, List.getElem_cons_succ, Act.put, List.setIfInBounds_toArray, List.set_cons_zero, List.set_cons_succ]
            refine wpAnyL_take (i := 17) (v := ?_) rfl (by kernel_rfl) (by kernel_rfl) (by kernel_rfl) (by rfl) (fun _ _ _ h => h) (Or.inl ⟨by rfl, ?_⟩) hHeld (fun hHeld2 => ?_)
            rotate_left
            · (intro wz hSw; go_simp; try with_reducible rfl)
            clear hHeld; have hHeld := hHeld2; clear hHeld2
            try simp only [List.getElem_toArray, List.getElem_cons_zero, List.getElem_cons_succ, Act.put, List.setIfInBounds_toArray, List.set_cons_zero, List.set_cons_succ]
            refine wpAnyL_take (i := 18) (v := ?_) rfl (by kernel_rfl) (by kernel_rfl) (by kernel_rfl) (by rfl) (fun _ _ _ h => h) (Or.inl ⟨by rfl, ?_⟩) hHeld (fun hHeld2 => ?_)
            rotate_left
            · (intro wz hSw; go_simp; try with_reducible rfl)
            clear hHeld; have hHeld := hHeld2; clear hHeld2
            try simp only [List.getElem_toArray, List.getElem_cons_zero, List.getElem_cons_succ, Act.put, List.setIfInBounds_toArray, List.set_cons_zero, List.set_cons_succ]
            refine wpAnyL_take (i := 19) (v := ?_) rfl (by kernel_rfl) (by kernel_rfl) (by kernel_rfl) (by rfl) (fun _ _ _ h => h) (Or.inl ⟨by rfl, ?_⟩) hHeld (fun hHeld2 => ?_)
            rotate_left
            · (intro wz hSw; go_simp; try with_reducible rfl)
            clear hHeld; have hHeld := hHeld2; clear hHeld2
            try simp only [List.getElem_toArray, List.getElem_cons_zero, List.getElem_cons_succ, Act.put, List.setIfInBounds_toArray, List.set_cons_zero, List.set_cons_succ]
            refine wpAnyL_oneW (i := 20) (by kernel_rfl) rfl (by rfl) hHeld (fun K hK => ?_)
            go_simp
            refine C6.out.mono ?_
            rintro e w6 ⟨rfl, hb6⟩
            have E6 := Lib.hid (E5.out.put hb6)
            clear hb6 C6 E5
            refine hK.out _ _ (by intro p hp; cases hp) (fun hHeld2 => ?_)
            clear hHeld hK K ; have hHeld := hHeld2; clear hHeld2
            try simp only [List.getElem_toArray, List.getElem_cons_zero, List.getElem_cons_succ, Act.put, List.setIfInBounds_toArray, List.set_cons_zero, List.set_cons_succ]
            have t5 : IntKind.i64.wrap (((hdL n l).length : Int) + ((tlL n l).length : Int)) = ((hdL n l).length : Int) + ((tlL n l).length : Int) := wrap_in (by omega) (by have := LN.out; omega)
            have t6 : IntKind.i64.wrap ((N : Int) + 1) = (N : Int) + 1 := wrap_in (by omega) (by omega)
            have t7 : decide (((hdL n l).length : Int) + ((tlL n l).length : Int) ≤ (N : Int) + 1) = true := by have := LN.out; simp; omega
            refine wpAnyL_take (i := 21) (v := ?_) rfl (by kernel_rfl) (by kernel_rfl) (by kernel_rfl) (by rfl) (fun _ _ _ h => h) (Or.inl ⟨by rfl, ?_⟩) hHeld (fun hHeld2 => ?_)
            rotate_left
            · (intro wz hSw; go_simp; try with_reducible rfl)
            clear hHeld; have hHeld := hHeld2; clear hHeld2
            try simp only [List.getElem_toArray, List.getElem_cons_zero, List.getElem_cons_succ, Act.put, List.setIfInBounds_toArray, List.set_cons_zero, List.set_cons_succ]
            refine wpAnyL_take (i := 22) (v := ?_) rfl (by kernel_rfl) (by kernel_rfl) (by kernel_rfl) (by rfl) (fun _ _ _ h => h) (Or.inl ⟨by rfl, ?_⟩) hHeld (fun hHeld2 => ?_)
            rotate_left
            · (intro wz hSw; go_simp; try with_reducible rfl)
            clear hHeld; have hHeld := hHeld2; clear hHeld2
            try simp only [List.getElem_toArray, List.getElem_cons_zero, List.getElem_cons_succ, Act.put, List.setIfInBounds_toArray, List.set_cons_zero, List.set_cons_succ]
            refine wpAnyL_take (i := 23) (v := ?_) rfl (by kernel_rfl) (by kernel_rfl) (by kernel_rfl) (by rfl) (fun _ _ _ h => h) (Or.inl ⟨by rfl, ?_⟩) hHeld (fun hHeld2 => ?_)
            rotate_left
            · (intro wz hSw; go_simp; try with_reducible rfl)
            clear hHeld; have hHeld := hHeld2; clear hHeld2
            try simp only [List.getElem_toArray, List.getElem_cons_zero, List.getElem_cons_succ, Act.put, List.setIfInBounds_toArray, List.set_cons_zero, List.set_cons_succ]
            refine wpAnyL_take (i := 24) (v := ?_) rfl (by kernel_rfl) (by kernel_rfl) (by kernel_rfl) (by rfl) (fun _ _ _ h => h) (Or.inl ⟨by rfl, ?_⟩) hHeld (fun hHeld2 => ?_)
            rotate_left
            · (intro wz hSw; go_simp; try with_reducible rfl)
            clear hHeld; have hHeld := hHeld2; clear hHeld2
            try simp only [List.getElem_toArray, List.getElem_cons_zero, List.getElem_cons_succ, Act.put, List.setIfInBounds_toArray, List.set_cons_zero, List.set_cons_succ]
            refine wpAnyL_take (i := 25) (v := ?_) rfl (by kernel_rfl) (by kernel_rfl) (by kernel_rfl) (by rfl) (fun _ _ _ h => h) (Or.inl ⟨by rfl, ?_⟩) hHeld (fun hHeld2 => ?_)
            rotate_left
            · (intro wz hSw; go_simp; try with_reducible rfl)
            clear hHeld; have hHeld := hHeld2; clear hHeld2
            try simp only [List.getElem_toArray, List.getElem_cons_zero, List.getElem_cons_succ, Act.put, List.setIfInBounds_toArray, List.set_cons_zero, List.set_cons_succ]
            refine wpAnyL_take (i := 26) (v := ?_) rfl (by kernel_rfl) (by kernel_rfl) (by kernel_rfl) (by rfl) (fun _ _ _ h => h) (Or.inl ⟨by rfl, ?_⟩) hHeld (fun hHeld2 => ?_)
            rotate_left
            · (intro wz hSw; go_simp; try with_reducible rfl)
            clear hHeld; have hHeld := hHeld2; clear hHeld2
            try simp only [List.getElem_toArray, List.getElem_cons_zero, List.getElem_cons_succ, Act.put, List.setIfInBounds_toArray, List.set_cons_zero, List.set_cons_succ]
            refine wpAnyL_take (i := 27) (v := ?_) rfl (by kernel_rfl) (by kernel_rfl) (by kernel_rfl) (by rfl) (fun _ _ _ h => h) (Or.inl ⟨by rfl, ?_⟩) hHeld (fun hHeld2 => ?_)
            rotate_left
            · (intro wz hSw; go_simp; try with_reducible rfl)
            clear hHeld; have hHeld := hHeld2; clear hHeld2
            try simp only [List.getElem_toArray, List.getElem_cons_zero, List.getElem_cons_succ, Act.put, List.setIfInBounds_toArray, List.set_cons_zero, List.set_cons_succ]
            refine wpAnyL_take (i := 28) (v := ?_) rfl (by kernel_rfl) (by kernel_rfl) (by kernel_rfl) (by rfl) (fun _ _ _ h => h) (Or.inl ⟨by rfl, ?_⟩) hHeld (fun hHeld2 => ?_)
            rotate_left
            · (intro wz hSw; go_simp; try with_reducible rfl)
            clear hHeld; have hHeld := hHeld2; clear hHeld2
            try simp only [List.getElem_toArray, List.getElem_cons_zero, List.getElem_cons_succ, Act.put, List.setIfInBounds_toArray, List.set_cons_zero, List.set_cons_succ]
            refine wpAnyL_take (i := 29) (v := ?_) rfl (by kernel_rfl) (by kernel_rfl) (by kernel_rfl) (by rfl) (fun _ _ _ h => h) (Or.inl ⟨by rfl, ?_⟩) hHeld (fun hHeld2 => ?_)
            rotate_left
            · (intro wz hSw; go_simp; try with_reducible rfl)
            clear hHeld; have hHeld := hHeld2; clear hHeld2
            try simp only [List.getElem_toArray, List.getElem_cons_zero, List.getElem_cons_succ, Act.put, List.setIfInBounds_toArray, List.set_cons_zero, List.set_cons_succ]
            refine wpAnyL_take (i := 30) (v := ?_) rfl (by kernel_rfl) (by kernel_rfl) (by kernel_rfl) (by rfl) (fun _ _ _ h => h) (Or.inl ⟨by rfl, ?_⟩) hHeld (fun hHeld2 => ?_)
            rotate_left
            · (intro wz hSw; go_simp; try with_reducible rfl)
            clear hHeld; have hHeld := hHeld2; clear hHeld2
            try simp only [List.getElem_toArray, List.getElem_cons_zero, List.getElem_cons_succ, Act.put, List.setIfInBounds_toArray, List.set_cons_zero, List.set_cons_succ]
            refine wpAnyL_take (i := 31) (v := ?_) rfl (by kernel_rfl) (by kernel_rfl) (by kernel_rfl) (by rfl) (fun _ _ _ h => h) (Or.inl ⟨by rfl, ?_⟩) hHeld (fun hHeld2 => ?_)
            rotate_left
            · (intro wz hSw; go_simp; try with_reducible rfl)
            clear hHeld; have hHeld := hHeld2; clear hHeld2
            try simp only [List.getElem_toArray, List.getElem_cons_zero, List.getElem_cons_succ, Act.put, List.setIfInBounds_toArray, List.set_cons_zero, List.set_cons_succ]
            refine wpAnyL_take (i := 32) (v := ?_) rfl (by kernel_rfl) (by kernel_rfl) (by kernel_rfl) (by rfl) (fun _ _ _ h => h) (Or.inl ⟨by rfl, ?_⟩) hHeld (fun hHeld2 => ?_)
            rotate_left
            · (intro wz hSw; go_simp; try with_reducible rfl)
            clear hHeld; have hHeld := hHeld2; clear hHeld2
            try simp only [List.getElem_toArray, List.getElem_cons_zero, List.getElem_cons_succ, Act.put, List.setIfInBounds_toArray, List.set_cons_zero, List.set_cons_succ]
            refine wpAnyL_take (i := 33) (v := ?_) rfl (by kernel_rfl) (by kernel_rfl) (by kernel_rfl) (by rfl) (fun _ _ _ h => h) (Or.inl ⟨by rfl, ?_⟩) hHeld (fun hHeld2 => ?_)
            rotate_left
            · (intro wz hSw; go_simp; try with_reducible rfl)
            clear hHeld; have hHeld := hHeld2; clear hHeld2
            try simp only [List.getElem_toArray, List.getElem_cons_zero, List.getElem_cons_succ, Act.put, List.setIfInBounds_toArray, List.set_cons_zero, List.set_cons_succ]
            refine wpAnyL_done (by kernel_rfl) ?_ _
            go_wp2
            go_ret
            exact ⟨rfl, E6.out.be⟩
          · rw [List.getElem?_eq_none (by rw [HLL.out]; omega)] at hal
            have ha := HAT.out
            rw [hal] at ha
            obtain ⟨rfl, rfl⟩ := ha
            have u1 : decide ((nn : Int) < (L : Int)) = false := by simp; omega
            clear hal hck
            go_wp2_with fail
            generalize w10 = wr at *
            generalize hnz : ((nn : Nat) : Int) = n at *
            refine wp_region_L [] 34 #[false, false, false, false, false, false, false, false, false, false, false, false, false, false, false, false, false, false, false, false, false, false, false, false, false, false, false, false, false, false, false, false, false, false] (by kernel_rfl) (by rfl) (by kernel_rfl) (by intro p hp; cases hp) (fun hHeld => ?_)
            refine wpAnyL_take (i := 0) (v := ?_) rfl (by kernel_rfl) (by kernel_rfl) (by kernel_rfl) (by rfl) (fun _ _ _ h => h) (Or.inl ⟨by rfl, ?_⟩) hHeld (fun hHeld2 => ?_)
            rotate_left
            · (intro wz hSw; go_simp; try with_reducible rfl)
            clear hHeld; have hHeld := hHeld2; clear hHeld2
            try simp only [List.getElem_toArray, List.getElem_cons_zero, List.getElem_cons_succ, Act.put, List.setIfInBounds_toArray, List.set_cons_zero, List.set_cons_succ]
            refine wpAnyL_take (i := 2) (v := ?_) rfl (by kernel_rfl) (by kernel_rfl) (by kernel_rfl) (by rfl) (fun _ _ _ h => h) (Or.inl ⟨by rfl, ?_⟩) hHeld (fun hHeld2 => ?_)
            rotate_left
            · (intro wz hSw; go_simp; try with_reducible rfl)
            clear hHeld; have hHeld := hHeld2; clear hHeld2
            try simp only [List.getElem_toArray, List.getElem_cons_zero, List.getElem_cons_succ, Act.put, List.setIfInBounds_toArray, List.set_cons_zero, List.set_cons_succ]
            refine wpAnyL_take (i := 3) (v := ?_) rfl (by kernel_rfl) (by kernel_rfl) (by kernel_rfl) (by rfl) (fun _ _ _ h => h) (Or.inl ⟨by rfl, ?_⟩) hHeld (fun hHeld2 => ?_)
            rotate_left
            · (intro wz hSw; go_simp; try with_reducible rfl)
            clear hHeld; have hHeld := hHeld2; clear hHeld2
            try simp only [List.getElem_toArray, List.getElem_cons_zero, List.getElem_cons_succ, Act.put, List.setIfInBounds_toArray, List.set_cons_zero, List.set_cons_succ]
            refine wpAnyL_take (i := 4) (v := ?_) rfl (by kernel_rfl) (by kernel_rfl) (by kernel_rfl) (by rfl) (fun _ _ _ h => h) (Or.inl ⟨by rfl, ?_⟩) hHeld (fun hHeld2 => ?_)
            rotate_left
            · (intro wz hSw; go_simp; try with_reducible rfl)
            clear hHeld; have hHeld := hHeld2; clear hHeld2
            try simp only [List.getElem_toArray, List.getElem_cons_zero, List.getElem_cons_succ, Act.put, List.setIfInBounds_toArray, List.set_cons_zero, List.set_cons_succ]
            have E0 := Lib.hid (E.out.put (below_drew (Below.refl wr.heap.size wr)))
            clear E
            generalize wr.drew = wd at *
            have hHeld2 := asked_none (w' := wd) hHeld
            clear hHeld; have hHeld := hHeld2; clear hHeld2
            have C1 := Lib.hid (rsectors_any wd Ah (hdL n l).length ch (hdL n l) rfl (by have := LN.out; omega) PF.out.mh PF.out.th E0.out.eh)
            refine wpAnyL_oneW (i := 1) (by kernel_rfl) rfl (by rfl) hHeld (fun K hK => ?_)
            go_simp
            refine C1.out.mono ?_
            rintro e w1 ⟨v1, rfl, ho1, hb1⟩
            have E1 := Lib.hid (E0.out.put hb1)
            obtain ⟨A1, c1, rfl, _, _, hi1⟩ := ho1.shape
            have I1 := Lib.hid (hi1 (secs_z64 PF.out.mh))
            have C2 := Lib.hid (ints_any w1 A1 At' (secs (hdL n l)).length c1 nn cz _ _ (secs (hdL n l)) ((secs l).take nn) rfl PF.out.lt (by rw [PF.out.sh, PF.out.lt]; have := PF.out.le; have := LZ.out; omega) I1.out E1.out.zt)
            rw [show decide (secs (hdL n l) = (secs l).take nn) = true from by rw [PF.out.sh]; simp] at C2
            clear ho1 hb1 hi1 C1 E0
            refine hK.out _ _ (by intro p hp; cases hp) (fun hHeld2 => ?_)
            clear hHeld hK K ; have hHeld := hHeld2; clear hHeld2
            try simp only [List.getElem_toArray, List.getElem_cons_zero, List.getElem_cons_succ, Act.put, List.setIfInBounds_toArray, List.set_cons_zero, List.set_cons_succ]
            refine wpAnyL_oneW (i := 5) (by kernel_rfl) rfl (by rfl) hHeld (fun K hK => ?_)
            go_simp
            refine C2.out.mono ?_
            rintro e w2 ⟨rfl, q2, rfl⟩
            have E2 := Lib.hid (E1.out.put (below_drewN_self w1 q2))
            clear E1 C2 I1
            refine hK.out _ _ (by intro p hp; cases hp) (fun hHeld2 => ?_)
            clear hHeld hK K ; have hHeld := hHeld2; clear hHeld2
            try simp only [List.getElem_toArray, List.getElem_cons_zero, List.getElem_cons_succ, Act.put, List.setIfInBounds_toArray, List.set_cons_zero, List.set_cons_succ]
            generalize w1.drewN q2 = w2 at *
            have hHeld2 := asked_none (w' := w2) hHeld
            clear hHeld; have hHeld := hHeld2; clear hHeld2
            refine wpAnyL_take (i := 6) (v := ?_) rfl (by kernel_rfl) (by kernel_rfl) (by kernel_rfl) (by rfl) (fun _ _ _ h => h) (Or.inl ⟨by rfl, ?_⟩) hHeld (fun hHeld2 => ?_)
            rotate_left
            · (intro wz hSw; go_simp; try with_reducible rfl)
            clear hHeld; have hHeld := hHeld2; clear hHeld2
            try simp only [List.getElem_toArray, List.getElem_cons_zero, List.getElem_cons_succ, Act.put, List.setIfInBounds_toArray, List.set_cons_zero, List.set_cons_succ]
            refine wpAnyL_take (i := 7) (v := ?_) rfl (by kernel_rfl) (by kernel_rfl) (by kernel_rfl) (by rfl) (fun _ _ _ h => h) (Or.inl ⟨by rfl, ?_⟩) hHeld (fun hHeld2 => ?_)
            rotate_left
            · (intro wz hSw; go_simp; try with_reducible rfl)
            clear hHeld; have hHeld := hHeld2; clear hHeld2
            try simp only [List.getElem_toArray, List.getElem_cons_zero, List.getElem_cons_succ, Act.put, List.setIfInBounds_toArray, List.set_cons_zero, List.set_cons_succ]
            refine wpAnyL_take (i := 9) (v := ?_) rfl (by kernel_rfl) (by kernel_rfl) (by kernel_rfl) (by rfl) (fun _ _ _ h => h) (Or.inl ⟨by rfl, ?_⟩) hHeld (fun hHeld2 => ?_)
            rotate_left
            · (intro wz hSw; go_simp; try with_reducible rfl)
            clear hHeld; have hHeld := hHeld2; clear hHeld2
            try simp only [List.getElem_toArray, List.getElem_cons_zero, List.getElem_cons_succ, Act.put, List.setIfInBounds_toArray, List.set_cons_zero, List.set_cons_succ]
            refine wpAnyL_take (i := 10) (v := ?_) rfl (by kernel_rfl) (by kernel_rfl) (by kernel_rfl) (by rfl) (fun _ _ _ h => h) (Or.inl ⟨by rfl, ?_⟩) hHeld (fun hHeld2 => ?_)
            rotate_left
            · (intro wz hSw; go_simp; try with_reducible rfl)
            clear hHeld; have hHeld := hHeld2; clear hHeld2
            try simp only [List.getElem_toArray, List.getElem_cons_zero, List.getElem_cons_succ, Act.put, List.setIfInBounds_toArray, List.set_cons_zero, List.set_cons_succ]
            refine wpAnyL_take (i := 11) (v := ?_) rfl (by kernel_rfl) (by kernel_rfl) (by kernel_rfl) (by rfl) (fun _ _ _ h => h) (Or.inl ⟨by rfl, ?_⟩) hHeld (fun hHeld2 => ?_)
            rotate_left
            · (intro wz hSw; go_simp; try with_reducible rfl)
            clear hHeld; have hHeld := hHeld2; clear hHeld2
            try simp only [List.getElem_toArray, List.getElem_cons_zero, List.getElem_cons_succ, Act.put, List.setIfInBounds_toArray, List.set_cons_zero, List.set_cons_succ]
            have C3 := Lib.hid (rsectors_any w2 At (tlL n l).length ct (tlL n l) rfl (by have := LN.out; omega) PF.out.mt PF.out.tt E2.out.et)
            refine wpAnyL_oneW (i := 8) (by kernel_rfl) rfl (by rfl) hHeld (fun K hK => ?_)
            go_simp
            refine C3.out.mono ?_
            rintro e w3 ⟨v3, rfl, ho3, hb3⟩
            have E3 := Lib.hid (E2.out.put hb3)
            obtain ⟨A3, c3, rfl, _, _, hi3⟩ := ho3.shape
            have I3 := Lib.hid (hi3 (secs_z64 PF.out.mt))
            have C4 := Lib.hid (ints_any w3 A3 Az' (secs (tlL n l)).length c3 (L - nn) (cz - nn) _ _ (secs (tlL n l)) ((secs l).drop nn) rfl PF.out.ld (by rw [PF.out.st, PF.out.ld]; have := PF.out.le; have := LZ.out; omega) I3.out E3.out.zd)
            rw [show decide (secs (tlL n l) = (secs l).drop nn) = true from by rw [PF.out.st]; simp] at C4
            clear ho3 hb3 hi3 C3 E2
            refine hK.out _ _ (by intro p hp; cases hp) (fun hHeld2 => ?_)
            clear hHeld hK K ; have hHeld := hHeld2; clear hHeld2
            try simp only [List.getElem_toArray, List.getElem_cons_zero, List.getElem_cons_succ, Act.put, List.setIfInBounds_toArray, List.set_cons_zero, List.set_cons_succ]
            refine wpAnyL_oneW (i := 12) (by kernel_rfl) rfl (by rfl) hHeld (fun K hK => ?_)
            go_simp
            refine C4.out.mono ?_
            rintro e w4 ⟨rfl, q4, rfl⟩
            have E4 := Lib.hid (E3.out.put (below_drewN_self w3 q4))
            clear E3 C4 I3
            refine hK.out _ _ (by intro p hp; cases hp) (fun hHeld2 => ?_)
            clear hHeld hK K ; have hHeld := hHeld2; clear hHeld2
            try simp only [List.getElem_toArray, List.getElem_cons_zero, List.getElem_cons_succ, Act.put, List.setIfInBounds_toArray, List.set_cons_zero, List.set_cons_succ]
            generalize w3.drewN q4 = w4 at *
            have hHeld2 := asked_none (w' := w4) hHeld
            clear hHeld; have hHeld := hHeld2; clear hHeld2
            have C5 := Lib.hid (rchain_any w4 Ah ch (hdL n l).length (hdL n l) rfl E4.out.eh (by have := LN.out; omega))
            rw [PF.out.kh] at C5
            refine wpAnyL_take (i := 13) (v := ?_) rfl (by kernel_rfl) (by kernel_rfl) (by kernel_rfl) (by rfl) (fun _ _ _ h => h) (Or.inl ⟨by rfl, ?_⟩) hHeld (fun hHeld2 => ?_)
            rotate_left
            · (intro wz hSw; go_simp; try with_reducible rfl)
            clear hHeld; have hHeld := hHeld2; clear hHeld2
            try simp only [List.getElem_toArray, List.getElem_cons_zero, List.getElem_cons_succ, Act.put, List.setIfInBounds_toArray, List.set_cons_zero, List.set_cons_succ]
            refine wpAnyL_take (i := 14) (v := ?_) rfl (by kernel_rfl) (by kernel_rfl) (by kernel_rfl) (by rfl) (fun _ _ _ h => h) (Or.inl ⟨by rfl, ?_⟩) hHeld (fun hHeld2 => ?_)
            rotate_left
            · (intro wz hSw; go_simp; try with_reducible rfl)
            clear hHeld; have hHeld := hHeld2; clear hHeld2
            try simp only [List.getElem_toArray, List.getElem_cons_zero, List.getElem_cons_succ, Act.put, List.setIfInBounds_toArray, List.set_cons_zero, List.set_cons_succ]
            refine wpAnyL_take (i := 15) (v := ?_) rfl (by kernel_rfl) (by kernel_rfl) (by kernel_rfl) (by rfl) (fun _ _ _ h => h) (Or.inl ⟨by rfl, ?_⟩) hHeld (fun hHeld2 => ?_)
            rotate_left
            · (intro wz hSw; go_simp; try with_reducible rfl)
            clear hHeld; have hHeld := hHeld2; clear hHeld2
            try simp only [List.getElem_toArray, List.getElem_cons_zero, List.getElem_cons_succ, Act.put, List.setIfInBounds_toArray, List.set_cons_zero, List.set_cons_succ]
            refine wpAnyL_oneW (i := 16) (by kernel_rfl) rfl (by rfl) hHeld (fun K hK => ?_)
            go_simp
            refine C5.out.mono ?_
            rintro e w5 ⟨rfl, hb5⟩
            have E5 := Lib.hid (E4.out.put hb5)
            have C6 := Lib.hid (rchain_any w5 At ct (tlL n l).length (tlL n l) rfl E5.out.et (by have := LN.out; omega))
            rw [PF.out.kt] at C6
            clear hb5 C5 E4
            refine hK.out _ _ (by intro p hp; cases hp) (fun hHeld2 => ?_)
            clear hHeld hK K ; have hHeld := hHeld2; clear hHeld2
            try simp only [List.getElem_toArray, List.getElem_cons_zero, List.getElem_cons_succ, Act.put, List.setIfInBounds_toArray, List.set_cons_zero, List.set_cons_succ]
            refine wpAnyL_take (i := 17) (v := ?_) rfl (by kernel_rfl) (by kernel_rfl) (by kernel_rfl) (by rfl) (fun _ _ _ h => h) (Or.inl ⟨by rfl, ?_⟩) hHeld (fun hHeld2 => ?_)
            rotate_left
            · (intro wz hSw; go_simp; try with_reducible rfl)
            clear hHeld; have hHeld := hHeld2; clear hHeld2
            try simp only [List.getElem_toArray, List.getElem_cons_zero, List.getElem_cons_succ, Act.put, List.setIfInBounds_toArray, List.set_cons_zero, List.set_cons_succ]
            refine wpAnyL_take (i := 18) (v := ?_) rfl (by kernel_rfl) (by kernel_rfl) (by kernel_rfl) (by rfl) (fun _ _ _ h => h) (Or.inl ⟨by rfl, ?_⟩) hHeld (fun hHeld2 => ?_)
            rotate_left
            · (intro wz hSw; go_simp; try with_reducible rfl)
            clear hHeld; have hHeld := hHeld2; clear hHeld2
            try simp only [List.getElem_toArray, List.getElem_cons_zero, List.getElem_cons_succ, Act.put, List.setIfInBounds_toArray, List.set_cons_zero, List.set_cons_succ]
            refine wpAnyL_take (i := 19) (v := ?_) rfl (by kernel_rfl) (by kernel_rfl) (by kernel_rfl) (by rfl) (fun _ _ _ h => h) (Or.inl ⟨by rfl, ?_⟩) hHeld (fun hHeld2 => ?_)
            rotate_left
            · (intro wz hSw; go_simp; try with_reducible rfl)
            clear hHeld; have hHeld := hHeld2; clear hHeld2
            try simp only [List.getElem_toArray, List.getElem_cons_zero, List.getElem_cons_succ, Act.put, List.setIfInBounds_toArray, List.set_cons_zero, List.set_cons_succ]
            refine wpAnyL_oneW (i := 20) (by kernel_rfl) rfl (by rfl) hHeld (fun K hK => ?_)
            go_simp
            refine C6.out.mono ?_
            rintro e w6 ⟨rfl, hb6⟩
            have E6 := Lib.hid (E5.out.put hb6)
            clear hb6 C6 E5
            refine hK.out _ _ (by intro p hp; cases hp) (fun hHeld2 => ?_)
            clear hHeld hK K ; have hHeld := hHeld2; clear hHeld2
            try simp only [List.getElem_toArray, List.getElem_cons_zero, List.getElem_cons_succ, Act.put, List.setIfInBounds_toArray, List.set_cons_zero, List.set_cons_succ]
            have t5 : IntKind.i64.wrap (((hdL n l).length : Int) + ((tlL n l).length : Int)) = ((hdL n l).length : Int) + ((tlL n l).length : Int) := wrap_in (by omega) (by have := LN.out; omega)
            have t6 : IntKind.i64.wrap ((N : Int) + 1) = (N : Int) + 1 := wrap_in (by omega) (by omega)
            have t7 : decide (((hdL n l).length : Int) + ((tlL n l).length : Int) ≤ (N : Int) + 1) = true := by have := LN.out; simp; omega
            refine wpAnyL_take (i := 21) (v := ?_) rfl (by kernel_rfl) (by kernel_rfl) (by kernel_rfl) (by rfl) (fun _ _ _ h => h) (Or.inl ⟨by rfl, ?_⟩) hHeld (fun hHeld2 => ?_)
            rotate_left
            · (intro wz hSw; go_simp; try with_reducible rfl)
            clear hHeld; have hHeld := hHeld2; clear hHeld2
            try simp only [List.getElem_toArray, List.getElem_cons_zero, List.getElem_cons_succ, Act.put, List.setIfInBounds_toArray, List.set_cons_zero, List.set_cons_succ]
            refine wpAnyL_take (i := 22) (v := ?_) rfl (by kernel_rfl) (by kernel_rfl) (by kernel_rfl) (by rfl) (fun _ _ _ h => h) (Or.inl ⟨by rfl, ?_⟩) hHeld (fun hHeld2 => ?_)
            rotate_left
            · (intro wz hSw; go_simp; try with_reducible rfl)
            clear hHeld; have hHeld := hHeld2; clear hHeld2
            try simp only [List.getElem_toArray, List.getElem_cons_zero, List.getElem_cons_succ, Act.put, List.setIfInBounds_toArray, List.set_cons_zero, List.set_cons_succ]
            refine wpAnyL_take (i := 23) (v := ?_) rfl (by kernel_rfl) (by kernel_rfl) (by kernel_rfl) (by rfl) (fun _ _ _ h => h) (Or.inl ⟨by rfl, ?_⟩) hHeld (fun hHeld2 => ?_)
            rotate_left
            · (intro wz hSw; go_simp; try with_reducible rfl)
            clear hHeld; have hHeld := hHeld2; clear hHeld2
            try simp only [List.getElem_toArray, List.getElem_cons_zero, List.getElem_cons_succ, Act.put, List.setIfInBounds_toArray, List.set_cons_zero, List.set_cons_succ]
            refine wpAnyL_take (i := 24) (v := ?_) rfl (by kernel_rfl) (by kernel_rfl) (by kernel_rfl) (by rfl) (fun _ _ _ h => h) (Or.inl ⟨by rfl, ?_⟩) hHeld (fun hHeld2 => ?_)
            rotate_left
            · (intro wz hSw; go_simp; try with_reducible rfl)
            clear hHeld; have hHeld := hHeld2; clear hHeld2
            try simp only [List.getElem_toArray, List.getElem_cons_zero, List.getElem_cons_succ, Act.put, List.setIfInBounds_toArray, List.set_cons_zero, List.set_cons_succ]
            refine wpAnyL_take (i := 25) (v := ?_) rfl (by kernel_rfl) (by kernel_rfl) (by kernel_rfl) (by rfl) (fun _ _ _ h => h) (Or.inl ⟨by rfl, ?_⟩) hHeld (fun hHeld2 => ?_)
            rotate_left
            · (intro wz hSw; go_simp; try with_reducible rfl)
            clear hHeld; have hHeld := hHeld2; clear hHeld2
            try simp only [List.getElem_toArray, List.getElem_cons_zero, List.getElem_cons_succ, Act.put, List.setIfInBounds_toArray, List.set_cons_zero, List.set_cons_succ]
            refine wpAnyL_take (i := 26) (v := ?_) rfl (by kernel_rfl) (by kernel_rfl) (by kernel_rfl) (by rfl) (fun _ _ _ h => h) (Or.inl ⟨by rfl, ?_⟩) hHeld (fun hHeld2 => ?_)
            rotate_left
            · (intro wz hSw; go_simp; try with_reducible rfl)
            clear hHeld; have hHeld := hHeld2; clear hHeld2
            try simp only [List.getElem_toArray, List.getElem_cons_zero, List.getElem_cons_succ, Act.put, List.setIfInBounds_toArray, List.set_cons_zero, List.set_cons_succ]
            refine wpAnyL_take (i := 27) (v := ?_) rfl (by kernel_rfl) (by kernel_rfl) (by kernel_rfl) (by rfl) (fun _ _ _ h => h) (Or.inl ⟨by rfl, ?_⟩) hHeld (fun hHeld2 => ?_)
            rotate_left
            · (intro wz hSw; go_simp; try with_reducible rfl)
            clear hHeld; have hHeld := hHeld2; clear hHeld2
            try simp only [List.getElem_toArray, List.getElem_cons_zero, List.getElem_cons_succ, Act.put, List.setIfInBounds_toArray, List.set_cons_zero, List.set_cons_succ]
            refine wpAnyL_take (i := 28) (v := ?_) rfl (by kernel_rfl) (by kernel_rfl) (by kernel_rfl) (by rfl) (fun _ _ _ h => h) (Or.inl ⟨by rfl, ?_⟩) hHeld (fun hHeld2 => ?_)
            rotate_left
            · (intro wz hSw; go_simp; try with_reducible rfl)
            clear hHeld; have hHeld := hHeld2; clear hHeld2
            try simp only [List.getElem_toArray, List.getElem_cons_zero, List.getElem_cons_succ, Act.put, List.setIfInBounds_toArray, List.set_cons_zero, List.set_cons_succ]
            refine wpAnyL_take (i := 29) (v := ?_) rfl (by kernel_rfl) (by kernel_rfl) (by kernel_rfl) (by rfl) (fun _ _ _ h => h) (Or.inl ⟨by rfl, ?_⟩) hHeld (fun hHeld2 => ?_)
            rotate_left
            · (intro wz hSw; go_simp; try with_reducible rfl)
            clear hHeld; have hHeld := hHeld2; clear hHeld2
            try simp only [List.getElem_toArray, List.getElem_cons_zero, List.getElem_cons_succ, Act.put, List.setIfInBounds_toArray, List.set_cons_zero, List.set_cons_succ]
            refine wpAnyL_take (i := 30) (v := ?_) rfl (by kernel_rfl) (by kernel_rfl) (by kernel_rfl) (by rfl) (fun _ _ _ h => h) (Or.inl ⟨by rfl, ?_⟩) hHeld (fun hHeld2 => ?_)
            rotate_left
            · (intro wz hSw; go_simp; try with_reducible rfl)
            clear hHeld; have hHeld := hHeld2; clear hHeld2
            try simp only [List.getElem_toArray, List.getElem_cons_zero, List.getElem_cons_succ, Act.put, List.setIfInBounds_toArray, List.set_cons_zero, List.set_cons_succ]
            refine wpAnyL_take (i := 31) (v := ?_) rfl (by kernel_rfl) (by kernel_rfl) (by kernel_rfl) (by rfl) (fun _ _ _ h => h) (Or.inl ⟨by rfl, ?_⟩) hHeld (fun hHeld2 => ?_)
            rotate_left
            · (intro wz hSw; go_simp; try with_reducible rfl)
            clear hHeld; have hHeld := hHeld2; clear hHeld2
            try simp only [List.getElem_toArray, List.getElem_cons_zero, List.getElem_cons_succ, Act.put, List.setIfInBounds_toArray, List.set_cons_zero, List.set_cons_succ]
            refine wpAnyL_take (i := 32) (v := ?_) rfl (by kernel_rfl) (by kernel_rfl) (by kernel_rfl) (by rfl) (fun _ _ _ h => h) (Or.inl ⟨by rfl, ?_⟩) hHeld (fun hHeld2 => ?_)
            rotate_left
            · (intro wz hSw; go_simp; try with_reducible rfl)
            clear hHeld; have hHeld := hHeld2; clear hHeld2
            try simp only [List.getElem_toArray, List.getElem_cons_zero, List.getElem_cons_succ, Act.put, List.setIfInBounds_toArray, List.set_cons_zero, List.set_cons_succ]
            refine wpAnyL_take (i := 33) (v := ?_) rfl (by kernel_rfl) (by kernel_rfl) (by kernel_rfl) (by rfl) (fun _ _ _ h => h) (Or.inl ⟨by rfl, ?_⟩) hHeld (fun hHeld2 => ?_)
            rotate_left
            · (intro wz hSw; go_simp; try with_reducible rfl)
            clear hHeld; have hHeld := hHeld2; clear hHeld2
            try simp only [List.getElem_toArray, List.getElem_cons_zero, List.getElem_cons_succ, Act.put, List.setIfInBounds_toArray, List.set_cons_zero, List.set_cons_succ]
            refine wpAnyL_done (by kernel_rfl) ?_ _
            go_wp2
            go_ret
            exact ⟨rfl, E6.out.be⟩
        · have hck : cutOk l (nn : Int) = false := by rw [HCT.out]; simp; omega
          obtain ⟨rfl, rfl⟩ := HOK.out.2 hck
          rw [hck]
          rw [List.getElem?_eq_none (by rw [HLL.out]; omega)] at hal
          have ha := HAT.out
          rw [hal] at ha
          obtain ⟨rfl, rfl⟩ := ha
          obtain ⟨Ah, ch, rfl, _⟩ := HOH9.out.shape
          obtain ⟨At, ct, rfl, _⟩ := HOT9.out.shape
          have u1 : decide ((nn : Int) < (L : Int)) = false := by simp; omega
          have u2 : decide ((nn : Int) ≤ (L : Int)) = false := by simp; omega
          have u3 : decide ((nn : Int) < 0) = false := by simp
          have u4 : decide ((nn : Int) > (L : Int)) = true := by simp; omega
          have e0 : ([] : List (Int × Int)).length = 0 := rfl
          clear hal hck HOH9 HOT9
          rw [e0]
          generalize ((nn : Nat) : Int) = n at *
          go_wp2
          go_ret
          exact ⟨rfl, HW9.out⟩
      · have hal := HAL.out n
        rw [if_neg h0] at hal
        have hck : cutOk l n = false := by rw [HCT.out]; simp; omega
        obtain ⟨rfl, rfl⟩ := HOK.out.2 hck
        rw [hck]
        have ha := HAT.out
        rw [hal] at ha
        obtain ⟨rfl, rfl⟩ := ha
        obtain ⟨Ah, ch, rfl, _⟩ := HOH9.out.shape
        obtain ⟨At, ct, rfl, _⟩ := HOT9.out.shape
        have u0 : decide (n ≥ 0) = false := by simpa using h0
        have u3 : decide (n < 0) = true := by simp; omega
        have e0 : ([] : List (Int × Int)).length = 0 := rfl
        clear hal hck HOH9 HOT9
        rw [e0]
        go_wp2
        go_ret
        exact ⟨rfl, HW9.out⟩
    · rw [Bool.not_eq_true] at hch
      rw [hch] at CR
      have hck : cutOk l n = false := by unfold cutOk; rw [hch]; rfl
      obtain ⟨rfl, rfl⟩ := HOK.out.2 hck
      rw [hck]
      have hal : atL l n = none := by unfold atL; rw [if_neg (by rw [hch]; simp)]
      have ha := HAT.out
      rw [hal] at ha
      obtain ⟨rfl, rfl⟩ := ha
      have HTC := Lib.hid (show totC l = 0 by unfold totC; rw [if_neg (by rw [hch]; exact Bool.false_ne_true)])
      obtain ⟨Ah, ch, rfl, _⟩ := HOH5.out.shape
      obtain ⟨At, ct, rfl, _⟩ := HOT5.out.shape
      have e0 : ([] : List (Int × Int)).length = 0 := rfl
      rw [e0]
      clear hal hck hch HOH5 HOT5
      go_wp2_with fail
      refine CR.out.mono ?_
      rintro e w6 ⟨rfl, hb6⟩
      have HW6 := Lib.hid (HW5.out.trans (hb6.mono HW5.out.size))
      have C8 := Lib.hid (total_any w6 A c N l HL.out HN.out (by omega) ((HA.out.below HW6.out).more HW6.out.size))
      rw [HTC.out] at C8
      clear hb6 CR
      go_wp2_with fail
      refine C8.out.mono ?_
      rintro e w8 ⟨rfl, hb8⟩
      have HW8 := Lib.hid (HW6.out.trans (hb8.mono HW6.out.size))
      clear hb8 C8
      go_wp2
      go_ret
      exact ⟨rfl, HW8.out⟩
theorem chains_all (w : World) (A : Option Addr) (N c : Nat) (l : List (Int × Int)) (hl : l.length = N) (hc : N ≤ c) (hA : A = none → c = 0) (hb : Exts w w.heap.size A l) (n : Int) (hn : (Lit.int .i64 n).wf = true) (u : Int) (hu : (Lit.int .i64 u).wf = true) :
    Calls Try.prog 4 #[.slice A N c, .int .i64 n, .int .i64 u] w (TrueC w) := chains_walk w A N c l hl hc hA hb n (wf64 hn) u (wf64 hu)
end Go.Proofs.Ytgbhmjfhblganaa
