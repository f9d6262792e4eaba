/-
  The law ShaKinds, walked: it answers true. Conditions: the tables stand in their variables. (Written by tools/gen_shakinds.py.)
-/
import Derived.Test.YtjcpnephgbehmaaDoorShaHex
import Derived.Test.YtjcpnephgbehmaaDoorShaSumsWalk
import Derived.Test.YtjcpnephgbehmaaDoorRootLists
import Derived.Deep.RegionHeld3
namespace Go.Proofs.YtjcpnephgbehmaaDoor
open Go.RowKit Arr Sh

theorem str_get (l : List Nat) (hb : ∀ x, x ∈ l → x < 256) (i : Nat) (hi : i < l.length) (k : IntKind) (W : World) :
    (Instr.index 9 (.string (strOfNums (l.map fun (z : Nat) => (z : Int)))) (.int k (i : Int))).run Tryd.prog W = .ok (.int .u8 ((l.getD i 0 : Nat) : Int)) W := by
  have hs : (strOfNums (l.map fun (z : Nat) => (z : Int))).size = l.length := by rw [strOfNums_size, List.length_map]
  rw [run_index_string W 9 _ k (i : Int) Tryd.underlying9, dif_pos ⟨by omega, by rw [hs]; omega⟩]
  congr 3
  have hx : l[i] < 256 := hb _ (List.getElem_mem hi)
  have hd : (strOfNums (l.map fun (z : Nat) => (z : Int))).data = (l.map fun (z : Nat) => UInt8.ofNat z).toArray := by simp [strOfNums]
  have hg : ∀ (s : ByteArray) (d : Array UInt8) (n m : Nat) (h1 : n < s.size), s.data = d → n = m → (h2 : m < d.size) → (s[n]'h1).toNat = (d[m]'h2).toNat := by
    intro s d n m h1 e1 e2 h2
    subst e1 e2
    rfl
  rw [hg _ _ _ i _ hd (Int.toNat_natCast i) (by simpa using hi)]
  simp [hi, Nat.mod_eq_of_lt hx]
/-- What holds while a kind is looked at. -/
structure SKi (w : World) (gk gr gs : Nat) (kl l : List Nat) (w' : World) : Prop where
  k : Holds w' gk .u32 kl
  r : Tab32 w' gr kl
  s : Holds w' gs .u8 l
  bel : Below w.heap.size w w'
theorem SKi.after {w w' w'' : World} {gk gr gs : Nat} {kl l : List Nat} (h : SKi w gk gr gs kl l w') (hk : 0 < kl.length) (hl : 0 < l.length) (hb : Below w'.heap.size w' w'') : SKi w gk gr gs kl l w'' :=
  ⟨h.k.below hb (h.k.lt hk), h.r.below hb (h.r.lt hk), h.s.below hb (h.s.lt hl), h.bel.trans (hb.mono h.bel.size)⟩
theorem SKi.drew {w w' : World} {gk gr gs : Nat} {kl l : List Nat} (h : SKi w gk gr gs kl l w') : SKi w gk gr gs kl l w'.drew := ⟨h.k.drew, h.r, h.s.drew, below_drew h.bel⟩
theorem SKi.drewN {w w' : World} {gk gr gs : Nat} {kl l : List Nat} (h : SKi w gk gr gs kl l w') (n : Nat) : SKi w gk gr gs kl l (w'.drewN n) := ⟨h.k, h.r, h.s, below_drewN h.bel n⟩

set_option maxHeartbeats 4000000 in
set_option maxRecDepth 100000 in
theorem kinds_main (b : Nat) (hb : b < 256) (l : List Nat) (hl : l.length = 32) (hlb : ∀ x, x ∈ l → x < 256) (kl : List Nat) (lk : kl.length = 64) (w : World) (hv : VarsS w) (hkv : ∀ w', VarsS w' → Tab32 w' 1 kl)
    (hrk : ∀ w', Calls Tryd.prog 13 #[] w' (MadeWords kl w')) (htd : ∀ w', Calls Tryd.prog 14 #[] w' fun e w'' => e = .returned (.slice (some ⟨w'.heap.size, 0, none⟩) 64 64) ∧ w'' = w'.alloc (.cells (na .u32 kl) 33))
    (bl : List Nat) (lbl : bl.length = 8) (sm : List Nat) (LS : sm.length = 32) (hbg : ∀ w', Calls Tryd.prog 16 #[] w' (MadeWords bl w'))
    (hwt : ∀ (gk ck gb cb : Nat) (A : Option Addr) (w' : World), Tab32 w' gk kl → Tab32 w' gb bl → Bys w' w'.heap.size A [b] → A ≠ none → Calls Tryd.prog 15 #[.slice (some ⟨gk, 0, none⟩) 64 ck, .slice (some ⟨gb, 0, none⟩) 8 cb, .slice A 1 1] w' (GivesB sm w'))
    (hsc : ∀ w' : World, VarsS ((w'.alloc (.cells #[.int .u8 (b : Int)] 5)).alloc (.cells #[.slice (some ⟨w'.heap.size, 0, none⟩) 1 1] 22)) → Calls Tryd.prog 7 #[.slice (some ⟨w'.heap.size + 1, 0, none⟩) 1 1] ((w'.alloc (.cells #[.int .u8 (b : Int)] 5)).alloc (.cells #[.slice (some ⟨w'.heap.size, 0, none⟩) 1 1] 22)) (GivesB sm ((w'.alloc (.cells #[.int .u8 (b : Int)] 5)).alloc (.cells #[.slice (some ⟨w'.heap.size, 0, none⟩) 1 1] 22)))) :
    Calls Tryd.prog 5 #[.int .u8 (b : Int), .agg (na .u8 l)] w fun e w' => e = .returned (.bool true) ∧ Below w.heap.size w w' := by
  have b1 := below_alloc w (.cells (na .u8 l) 24)
  have r1 := Lib.hid (Holds.new w 24 .u8 l)
  have V1 := Lib.hid (hv.below b1 (Nat.le_refl _))
  have B1 := Lib.hid b1
  have SZ1 := Lib.hid (show (w.alloc (.cells (na .u8 l) 24)).heap.size = w.heap.size + 1 from World.size_alloc ..)
  have C1 := Lib.hid (awake_any _ V1.out)
  have HV := Lib.hid hv
  have HKV := Lib.hid hkv
  have HRK := Lib.hid hrk
  have HTD := Lib.hid htd
  have HBG := Lib.hid hbg
  have HWT := Lib.hid hwt
  have HSC := Lib.hid hsc
  have HLB := Lib.hid hlb
  clear b1 hv hkv hrk htd hbg hwt hsc hlb
  go_enter Tryd.func5, Tryd.ntmps5
  go_upto_region 1 with fail
  generalize w.alloc (.cells (na .u8 l) 24) = w1 at *
  go_wp2_with fail
  refine C1.out.mono ?_
  rintro e w2 ⟨rfl, hB2⟩
  have V2 := Lib.hid (V1.out.below hB2 (Nat.le_refl _))
  have R2 := Lib.hid (r1.out.below hB2 (by have := SZ1.out; omega))
  have B2 := Lib.hid (B1.out.trans (hB2.mono B1.out.size))
  have C2 := Lib.hid (kinds_gen kl lk w2 (HKV.out w2 V2.out))
  have hw12 : w.heap.size < w2.heap.size := by have := SZ1.out; have := hB2.size; omega
  clear hB2 C1 r1 V1 B1
  go_wp2_with fail
  refine C2.out.mono ?_
  rintro e w3 ⟨rfl, hB3⟩
  have hw23 := hB3.size
  have A1 := Holds.new w3 34 .u32 (zs 64)
  have A2 := Lib.hid (A1.put kl (by rw [lk, length_zs]))
  have A3 := Lib.hid (below_setCells (b := w3.heap.size) (Nat.le_refl _) (nv .u32 kl) 0 _ (below_alloc w3 (.cells (na .u32 (zs 64)) 34)))
  have A4 : ((w3.alloc (.cells (na .u32 (zs 64)) 34)).setCells w3.heap.size 0 (nv .u32 kl)).heap.size = w3.heap.size + 1 := by rw [size_setCells, World.size_alloc]
  have A5 := Lib.hid A4
  have D1 := Lib.hid A1
  have R3 := Lib.hid (R2.out.below hB3 hw12)
  have B3 := Lib.hid (B2.out.trans (hB3.mono B2.out.size))
  clear A1 A4 hB3 C2 R2 B2
  go_upto_region 4 with (first | (with_reducible refine Arr.alloc (t := 34) _ z64 ?_) | (with_reducible refine Arr.store o64 w3.heap.size (zs 64) kl (length_zs _) D1.out lk rfl rfl ?_) | fail)
  generalize (w3.alloc (.cells (na .u32 (zs 64)) 34)).setCells w3.heap.size 0 (nv .u32 kl) = w4 at *
  have R4 := Lib.hid (R3.out.below A3.out (by omega))
  have B4 := Lib.hid (B3.out.trans (A3.out.mono B3.out.size))
  have C3 := Lib.hid (HRK.out w4)
  have hgk : w3.heap.size < w4.heap.size := by have := A5.out; omega
  clear D1 A3 A5 R3 B3
  generalize w3.heap.size = gk at *
  go_wp2_with fail
  refine C3.out.mono ?_
  rintro e w5 ⟨gr, cr, rfl, hH5, hgr, hB5⟩
  rw [lk]
  have S5 := Lib.hid (show SKi w gk gr w.heap.size kl l w5 from ⟨A2.out.below hB5 hgk, fun j hj => hH5.cell j hj, R4.out.below hB5 (by omega), B4.out.trans (hB5.mono B4.out.size)⟩)
  clear hH5 hB5 C3 A2 R4 B4 V2
  go_wp2_with fail
  go_loopw [15] (fun i wr => ∃ t : Nat, t ≤ 64 ∧ i = .int .i64 (t : Nat) ∧ SKi w gk gr w.heap.size kl l wr) (fun i _ => 64 - (intOf i).toNat)
  case atStart => exact ⟨0, by omega, rfl, S5.out⟩
  case round =>
    clear S5
    obtain ⟨t, ht, rfl, hS⟩ := hrel
    have HS := Lib.hid hS
    clear hS
    by_cases hlt : t < 64
    · as_aux_lemma =>
      have t1 : decide ((t : Int) < 64) = true := by simp; omega
      have ti : (t : Int) < 64 := by omega
      have HC1 : Go.RowKit.Hid (∀ wz, SKi w gk gr w.heap.size kl l wz → wz.cell? ⟨gk, t, none⟩ = some (.int .u32 ((kl.getD t 0 : Nat) : Int)) ∧ wz.cell? ⟨gr, t, none⟩ = some (.int .u32 ((kl.getD t 0 : Nat) : Int))) := Lib.hid (fun wz h => ⟨h.k.cell t (by omega), h.r t (by omega)⟩)
      have HT3 : Go.RowKit.Hid (∀ wz : World, (wz.alloc (.cells (na .u32 kl) 33)).cell? ⟨wz.heap.size, t, none⟩ = some (.int .u32 ((kl.getD t 0 : Nat) : Int))) := Lib.hid (fun wz => (Holds.new wz 33 .u32 kl).cell t (by omega))
      generalize kl.getD t 0 = x at *
      have e1 : ((x : Int) != (x : Int)) = false := by simp
      have e2 : ((x : Int) == (x : Int)) = true := by simp
      clear HV HKV HRK HBG HWT HSC HLB
      go_wp2_with fail
      have ST := Lib.hid HS.out.drew
      clear HS
      refine wp_region_held_drew (S := SKi w gk gr w.heap.size kl l) (by kernel_rfl) ST.out (fun hHeld => ?_)
      clear ST
      generalize wr.drew = wq at *
      refine wpAnyH_take (i := 0) (v := ?_) rfl (by kernel_rfl) (by kernel_rfl) (by kernel_rfl) (fun _ _ _ h => h) (Or.inl ⟨by rfl, ?_⟩) (by assumption) ?_
      rotate_left
      · (intro wz hSw; go_simp; try with_reducible rfl)
      try simp only [List.getElem_toArray, List.getElem_cons_zero, Act.put, List.setIfInBounds_toArray, List.set_cons_zero, List.set_cons_succ]
      refine wpAnyH_take (i := 1) (v := ?_) rfl (by kernel_rfl) (by kernel_rfl) (by kernel_rfl) (fun _ _ _ h => h) (Or.inl ⟨by rfl, ?_⟩) (by assumption) ?_
      rotate_left
      · (intro wz hSw; go_simp; try with_reducible rfl)
      try simp only [List.getElem_toArray, List.getElem_cons_zero, List.getElem_cons_succ, Act.put, List.setIfInBounds_toArray, List.set_cons_zero, List.set_cons_succ]
      refine wpAnyH_take (i := 2) (v := ?_) rfl (by kernel_rfl) (by kernel_rfl) (by kernel_rfl) (fun _ _ _ h => h) (Or.inl ⟨by rfl, ?_⟩) (by assumption) ?_
      rotate_left
      · (intro wz hSw; obtain ⟨q1, q2⟩ := HC1.out wz hSw; go_simp; try with_reducible rfl)
      try simp only [List.getElem_toArray, List.getElem_cons_zero, List.getElem_cons_succ, Act.put, List.setIfInBounds_toArray, List.set_cons_zero, List.set_cons_succ]
      refine wpAnyH_take (i := 3) (v := ?_) rfl (by kernel_rfl) (by kernel_rfl) (by kernel_rfl) (fun _ _ _ h => h) (Or.inl ⟨by rfl, ?_⟩) (by assumption) ?_
      rotate_left
      · (intro wz hSw; go_simp; try with_reducible rfl)
      try simp only [List.getElem_toArray, List.getElem_cons_zero, List.getElem_cons_succ, Act.put, List.setIfInBounds_toArray, List.set_cons_zero, List.set_cons_succ]
      refine wpAnyH_take (i := 4) (v := ?_) rfl (by kernel_rfl) (by kernel_rfl) (by kernel_rfl) (fun _ _ _ h => h) (Or.inl ⟨by rfl, ?_⟩) (by assumption) ?_
      rotate_left
      · (intro wz hSw; go_simp; try with_reducible rfl)
      try simp only [List.getElem_toArray, List.getElem_cons_zero, List.getElem_cons_succ, Act.put, List.setIfInBounds_toArray, List.set_cons_zero, List.set_cons_succ]
      refine wpAnyH_take (i := 5) (v := ?_) rfl (by kernel_rfl) (by kernel_rfl) (by kernel_rfl) (fun _ _ _ h => h) (Or.inl ⟨by rfl, ?_⟩) (by assumption) ?_
      rotate_left
      · (intro wz hSw; go_simp; try with_reducible rfl)
      try simp only [List.getElem_toArray, List.getElem_cons_zero, List.getElem_cons_succ, Act.put, List.setIfInBounds_toArray, List.set_cons_zero, List.set_cons_succ]
      refine wpAnyH_take (i := 6) (v := ?_) rfl (by kernel_rfl) (by kernel_rfl) (by kernel_rfl) (fun _ _ _ h => h) (Or.inl ⟨by rfl, ?_⟩) (by assumption) ?_
      rotate_left
      · (intro wz hSw; obtain ⟨q1, q2⟩ := HC1.out wz hSw; go_simp; try with_reducible rfl)
      try simp only [List.getElem_toArray, List.getElem_cons_zero, List.getElem_cons_succ, Act.put, List.setIfInBounds_toArray, List.set_cons_zero, List.set_cons_succ]
      refine wpAnyH_take (i := 7) (v := ?_) rfl (by kernel_rfl) (by kernel_rfl) (by kernel_rfl) (fun _ _ _ h => h) (Or.inl ⟨by rfl, ?_⟩) (by assumption) ?_
      rotate_left
      · (intro wz hSw; go_simp; try with_reducible rfl)
      try simp only [List.getElem_toArray, List.getElem_cons_zero, List.getElem_cons_succ, Act.put, List.setIfInBounds_toArray, List.set_cons_zero, List.set_cons_succ]
      refine wpAnyH_take (i := 8) (v := ?_) rfl (by kernel_rfl) (by kernel_rfl) (by kernel_rfl) (fun _ _ _ h => h) (Or.inl ⟨by rfl, ?_⟩) (by assumption) ?_
      rotate_left
      · (intro wz hSw; go_simp; try with_reducible rfl)
      try simp only [List.getElem_toArray, List.getElem_cons_zero, List.getElem_cons_succ, Act.put, List.setIfInBounds_toArray, List.set_cons_zero, List.set_cons_succ]
      refine wpAnyH_take (i := 10) (v := ?_) rfl (by kernel_rfl) (by kernel_rfl) (by kernel_rfl) (fun _ _ _ h => h) (Or.inl ⟨by rfl, ?_⟩) (by assumption) ?_
      rotate_left
      · (intro wz hSw; go_simp; try with_reducible rfl)
      try simp only [List.getElem_toArray, List.getElem_cons_zero, List.getElem_cons_succ, Act.put, List.setIfInBounds_toArray, List.set_cons_zero, List.set_cons_succ]
      refine wpAnyH_take (i := 13) (v := ?_) rfl (by kernel_rfl) (by kernel_rfl) (by kernel_rfl) (fun _ _ _ h => h) (Or.inl ⟨by rfl, ?_⟩) (by assumption) ?_
      rotate_left
      · (intro wz hSw; go_simp; try with_reducible rfl)
      try simp only [List.getElem_toArray, List.getElem_cons_zero, List.getElem_cons_succ, Act.put, List.setIfInBounds_toArray, List.set_cons_zero, List.set_cons_succ]
      refine wpAnyH_take (i := 14) (v := ?_) rfl (by kernel_rfl) (by kernel_rfl) (by kernel_rfl) (fun _ _ _ h => h) (Or.inl ⟨by rfl, ?_⟩) (by assumption) ?_
      rotate_left
      · (intro wz hSw; go_simp; try with_reducible rfl)
      try simp only [List.getElem_toArray, List.getElem_cons_zero, List.getElem_cons_succ, Act.put, List.setIfInBounds_toArray, List.set_cons_zero, List.set_cons_succ]
      refine wpAnyH_take (i := 15) (v := ?_) rfl (by kernel_rfl) (by kernel_rfl) (by kernel_rfl) (fun _ _ _ h => h) (Or.inl ⟨by rfl, ?_⟩) (by assumption) ?_
      rotate_left
      · (intro wz hSw; go_simp; try with_reducible rfl)
      try simp only [List.getElem_toArray, List.getElem_cons_zero, List.getElem_cons_succ, Act.put, List.setIfInBounds_toArray, List.set_cons_zero, List.set_cons_succ]
      refine wpAnyH_take (i := 16) (v := ?_) rfl (by kernel_rfl) (by kernel_rfl) (by kernel_rfl) (fun _ _ _ h => h) (Or.inl ⟨by rfl, ?_⟩) (by assumption) ?_
      rotate_left
      · (intro wz hSw; obtain ⟨q1, q2⟩ := HC1.out wz hSw; go_simp; try with_reducible rfl)
      try simp only [List.getElem_toArray, List.getElem_cons_zero, List.getElem_cons_succ, Act.put, List.setIfInBounds_toArray, List.set_cons_zero, List.set_cons_succ]
      refine wpAnyH_ready (rs := [9]) (by kernel_rfl) (by simp) (AllReadyH.cons rfl (fun K hK => ?_) AllReadyH.nil)
      go_simp
      refine (HTD.out _).mono ?_
      rintro e w5 ⟨rfl, hw5⟩
      have cT := HT3.out wq
      have bW : Below wq.heap.size wq w5 := by rw [hw5]; exact below_alloc _ _
      rw [← hw5] at cT
      refine hK.out _ _ (hHeld.after (by omega) (by omega) bW) (fun hHeld2 => ?_)
      clear hHeld hK K hw5 bW; have hHeld := hHeld2; clear hHeld2
      try simp only [List.getElem_toArray, List.getElem_cons_zero, List.getElem_cons_succ, Act.put, List.setIfInBounds_toArray, List.set_cons_zero, List.set_cons_succ]
      refine wpAnyH_ready (rs := [11]) (by kernel_rfl) (by simp) (AllReadyH.cons rfl (fun K hK => ?_) AllReadyH.nil)
      go_simp
      refine hK.out _ _ hHeld (fun hHeld2 => ?_)
      clear hK K hHeld2
      try simp only [List.getElem_toArray, List.getElem_cons_zero, List.getElem_cons_succ, Act.put, List.setIfInBounds_toArray, List.set_cons_zero, List.set_cons_succ]
      refine wpAnyH_ready (rs := [12]) (by kernel_rfl) (by simp) (AllReadyH.cons rfl (fun K hK => ?_) AllReadyH.nil)
      go_simp
      refine hK.out _ _ hHeld (fun hHeld2 => ?_)
      clear hK K hHeld2
      try simp only [List.getElem_toArray, List.getElem_cons_zero, List.getElem_cons_succ, Act.put, List.setIfInBounds_toArray, List.set_cons_zero, List.set_cons_succ]
      refine wpAnyH_ready (rs := [17]) (by kernel_rfl) (by simp) (AllReadyH.cons rfl (fun K hK => ?_) AllReadyH.nil)
      go_simp
      refine hK.out _ _ hHeld (fun hHeld2 => ?_)
      clear hK K hHeld2
      try simp only [List.getElem_toArray, List.getElem_cons_zero, List.getElem_cons_succ, Act.put, List.setIfInBounds_toArray, List.set_cons_zero, List.set_cons_succ]
      refine wpAnyH_ready (rs := [18]) (by kernel_rfl) (by simp) (AllReadyH.cons rfl (fun K hK => ?_) AllReadyH.nil)
      go_simp
      refine hK.out _ _ hHeld (fun hHeld2 => ?_)
      clear hK K hHeld2
      try simp only [List.getElem_toArray, List.getElem_cons_zero, List.getElem_cons_succ, Act.put, List.setIfInBounds_toArray, List.set_cons_zero, List.set_cons_succ]
      refine wpAnyH_done (by kernel_rfl) ?_ _
      have HE := Lib.hid hHeld
      clear hHeld cT
      go_wp2
      go_roundw
      case rel => exact ⟨t + 1, by omega, by go_num, HE.out⟩
      case measure => simp [intOf]; omega
    · obtain rfl : t = 64 := by omega
      have t1 : decide ((64 : Int) < 64) = false := by decide
      have hkl : 0 < kl.length := by omega
      have hll : 0 < l.length := by omega
      have C4 := Lib.hid (HBG.out wr)
      go_wp2_with fail
      refine C4.out.mono ?_
      rintro e w6 ⟨gb, cb, rfl, hH6, hgb, hB6⟩
      rw [lbl]
      have S6 := HS.out.after hkl hll hB6
      have bA := below_alloc w6 (.cells #[.int .u8 (b : Int)] 5)
      have hgbw := hH6.lt (by rw [lbl]; omega)
      have C5 := Lib.hid (HWT.out gr cr gb cb (some ⟨w6.heap.size, 0, none⟩) (w6.alloc (.cells #[.int .u8 (b : Int)] 5)) (S6.r.below bA (S6.r.lt hkl)) (Tab32.below (fun j hj => hH6.cell j hj) bA hgbw) (bys_new w6 5 [b] (by simpa using hb)) (by simp))
      have S7 := Lib.hid (S6.after hkl hll bA)
      clear hH6 hB6 C4 HS S6 bA
      go_wp2_with fail
      refine C5.out.mono ?_
      rintro e w7 ⟨rfl, hB7⟩
      have S8 := S7.out.after hkl hll hB7
      have bC := below_alloc w7 (.cells #[.int .u8 (b : Int)] 5)
      have bD := bC.alloc bC.size (.cells #[.slice (some ⟨w7.heap.size, 0, none⟩) 1 1] 22)
      have S9 := S8.after hkl hll bD
      have C6 := HSC.out w7 (HV.out.below S9.bel (Nat.le_refl _))
      have C6h := Lib.hid C6
      have S9h := Lib.hid S9
      have HEQ : ∀ W : World, (Op.equalIn 10000 24 (.agg (na .u8 sm)) (.agg (na .u8 sm))).run Tryd.prog W = .ok true W := fun W => by
        have := eql o32 W sm sm LS LS
        simpa using this
      clear hB7 C5 S7 S8 bC bD C6 S9
      go_wp2_with fail
      refine C6h.out.mono ?_
      rintro e w8 ⟨rfl, hB8⟩
      have S10 := Lib.hid (S9h.out.after hkl hll hB8)
      have C7 := Lib.hid (fun w' => hex_any l hl HLB.out w')
      have SG : Go.RowKit.Hid (∀ i (hi : i < (hexL l).length) (k : IntKind) (W : World), (Instr.index 9 (.string (strOfNums ((hexL l).map fun (z : Nat) => (z : Int)))) (.int k (i : Int))).run Tryd.prog W = .ok (.int .u8 (((hexL l).getD i 0 : Nat) : Int)) W) := Lib.hid (fun i hi k W => str_get (hexL l) (hexL_lt l HLB.out) i hi k W)
      have ss : (strOfNums ((hexL l).map fun (z : Nat) => (z : Int))).size = 64 := by rw [strOfNums_size, List.length_map, length_hexL, hl]
      have hlx := length_hexL l
      clear hB8 C6h S9h
      generalize strOfNums ((hexL l).map fun (z : Nat) => (z : Int)) = st at *
      go_wp2_with (first | (with_reducible refine Arr.load o32 w.heap.size l hl S10.out.s rfl ?_) | fail)
      refine (C7.out _).mono ?_
      rintro e w9 ⟨rfl, hB9⟩
      have S11 := Lib.hid (S10.out.after hkl hll hB9)
      clear hB9 C7 S10 HEQ
      go_wp2_with (first | (with_reducible refine Arr.load o32 w.heap.size l hl S11.out.s rfl ?_) | fail)
      go_loopw [54] (fun i wx => ∃ t : Nat, t ≤ 32 ∧ i = .int .i64 (t : Nat) ∧ Below w.heap.size w wx) (fun i _ => 32 - (intOf i).toNat)
      case atStart => exact ⟨0, by omega, rfl, S11.out.bel⟩
      case round =>
        obtain ⟨t, ht, rfl, hbx⟩ := hrel
        have HBX := Lib.hid hbx
        clear hbx S11
        by_cases hlt : t < 32
        · have t1 : decide ((t : Int) < 32) = true := by simp; omega
          have ti : (t : Int) < 32 := by omega
          have hix : ∀ W : World, (Instr.index 24 (.agg (na .u8 l)) (.int .i64 (t : Int))).run Tryd.prog W = .ok (.int .u8 ((l.getD t 0 : Nat) : Int)) W := fun W => Arr.index o32 W l hl .i64 t hlt
          have hbi : l.getD t 0 < 256 := by
            have : l.getD t 0 ∈ l := by
              have hi' : t < l.length := by omega
              simp only [List.getD_eq_getElem?_getD, List.getElem?_eq_getElem hi', Option.getD_some]
              exact List.getElem_mem hi'
            exact HLB.out _ this
          have hgx := hexL_get l t (by omega)
          obtain ⟨q, hq⟩ : ∃ q, q = 2 * t := ⟨_, rfl⟩
          obtain ⟨q1, hq1⟩ : ∃ q1, q1 = q + 1 := ⟨_, rfl⟩
          have g1 := SG.out q (by omega) .i64
          have g2 := SG.out q1 (by omega) .i64
          rw [← hq] at hgx
          rw [← hq1] at hgx
          rw [hgx.1] at g1
          rw [hgx.2] at g2
          have e1 : 2 * (t : Int) = (q : Int) := by omega
          have e2 : (q : Int) + 1 = (q1 : Int) := by omega
          have w1' := wrap_nat q (by omega)
          have w2' := wrap_nat q1 (by omega)
          clear hgx hq hq1 SG
          generalize l.getD t 0 = c at *
          obtain ⟨h1, eh1⟩ : ∃ h, h = c / 16 := ⟨_, rfl⟩
          obtain ⟨h2, eh2⟩ : ∃ h, h = c % 16 := ⟨_, rfl⟩
          rw [← eh1] at g1
          rw [← eh2] at g2
          have f1 : (c : Int) / 16 = (h1 : Int) := by omega
          have f1' : Int.tdiv (c : Int) 16 = (h1 : Int) := by rw [Int.tdiv_eq_ediv_of_nonneg (by omega)]; exact f1
          have f2 : (c : Int) % 16 = (h2 : Int) := by omega
          have f2' : Int.tmod (c : Int) 16 = (h2 : Int) := by rw [Int.tmod_eq_emod_of_nonneg (by omega)]; exact f2
          have wu1 : IntKind.u8.wrap (h1 : Int) = (h1 : Int) := by rw [IntKind.wrap_u8]; omega
          have wu2 : IntKind.u8.wrap (h2 : Int) = (h2 : Int) := by rw [IntKind.wrap_u8]; omega
          have d1 := dig_run h1 (by omega) .u8
          have d2 := dig_run h2 (by omega) .u8
          clear eh1 eh2 ss hlx
          generalize hd h1 = x1 at *
          generalize hd h2 = x2 at *
          have n1 : ((x1 : Int) != (x1 : Int)) = false := by simp
          have n2 : ((x1 : Int) == (x1 : Int)) = true := by simp
          have n3 : ((x2 : Int) != (x2 : Int)) = false := by simp
          have n4 : ((x2 : Int) == (x2 : Int)) = true := by simp
          go_wp2_with fail
          go_quiet (fail)
          have HB2 := Lib.hid (below_drewN HBX.out nq)
          clear HBX hix g1 g2 d1 d2
          go_wp2
          go_roundw
          case rel => exact ⟨t + 1, by omega, by go_num, HB2.out⟩
          case measure => simp [intOf]; omega
        · obtain rfl : t = 32 := by omega
          have t1 : decide ((32 : Int) < 32) = false := by decide
          go_wp2
          go_ret
          exact ⟨rfl, HBX.out⟩
theorem sum_one (b : Nat) (hb : b < 256) (w' : World) (hv : VarsS ((w'.alloc (.cells #[.int .u8 (b : Int)] 5)).alloc (.cells #[.slice (some ⟨w'.heap.size, 0, none⟩) 1 1] 22))) :
    Calls Tryd.prog 7 #[.slice (some ⟨w'.heap.size + 1, 0, none⟩) 1 1] ((w'.alloc (.cells #[.int .u8 (b : Int)] 5)).alloc (.cells #[.slice (some ⟨w'.heap.size, 0, none⟩) 1 1] 22)) (GivesB (Sh.sum [b]) ((w'.alloc (.cells #[.int .u8 (b : Int)] 5)).alloc (.cells #[.slice (some ⟨w'.heap.size, 0, none⟩) 1 1] 22))) := by
  have s8 : (w'.alloc (.cells #[.int .u8 (b : Int)] 5)).heap.size = w'.heap.size + 1 := World.size_alloc ..
  have P0 := Parts.new (w'.alloc (.cells #[.int .u8 (b : Int)] 5)) 22 [⟨some ⟨w'.heap.size, 0, none⟩, 1, [b]⟩] (fun i hi => by
    obtain rfl : i = 0 := by simpa using hi
    exact ⟨Nat.le_refl _, bys_new w' 5 [b] (by simpa using hb)⟩) #[.slice (some ⟨w'.heap.size, 0, none⟩) 1 1] rfl
  rw [s8] at P0
  have tx : textOf [⟨some ⟨w'.heap.size, 0, none⟩, 1, [b]⟩] = [b] := by simp [textOf]
  have lx : (textOf [⟨some ⟨w'.heap.size, 0, none⟩, 1, [b]⟩]).length = 1 := by rw [tx]; rfl
  have C6 := Sum_any _ (some ⟨w'.heap.size + 1, 0, none⟩) 1 1 rfl (by omega) (by rw [lx]; omega) _ P0 hv
  rw [tx] at C6
  exact C6

theorem kinds_walk (a : Int) (l : List Nat) (w : World) (hv : VarsS w) (ha : (Lit.int .u8 a).wf = true) (hl : l.length = 32) (hb : ∀ i, l.getD i 0 < 256) :
    Calls Tryd.prog 5 #[.int .u8 a, .agg (na .u8 l)] w fun e w' => e = .returned (.bool true) ∧ Below w.heap.size w w' := by
  obtain ⟨b, rfl, hb'⟩ : ∃ b : Nat, a = (b : Int) ∧ b < 256 := by
    have hr : 0 ≤ a ∧ a ≤ 255 := by simp [Lit.wf, IntKind.min, IntKind.max, IntKind.signed, IntKind.bits] at ha; omega
    exact ⟨a.toNat, by omega, by omega⟩
  refine kinds_main b hb' l hl (fun x hx => ?_) Sh.K length_K w hv (fun w' h => h.vars.kinds) rkinds_any told_any H0.l (length_l _) (Sh.sum [b]) (length_sum _) rbegin_any (fun gk ck gb cb A w' h1 h2 h3 h4 => with_any [b] A 1 1 rfl (by omega) (fun h => absurd h h4) gk ck gb cb w' h1 h2 h3) (fun w' h => sum_one b hb' w' h)
  obtain ⟨i, hi, rfl⟩ := List.getElem_of_mem hx
  have := hb i
  simpa [List.getD_eq_getElem?_getD, hi] using this
end Go.Proofs.YtjcpnephgbehmaaDoor
