/-
  Contract of the disk's Overwrite. Conditions: the disk lies in memory as its methods leave it; its steps are fewer than 2^32; the bytes lie in memory, in none of its blocks.
-/
import Derived.Test.YtfjaiolgbcindaaDkDelF
namespace Go.Proofs.Ytfjaiolgbcindaa
open Go.RowKit Arr Dsk
set_option linter.unusedSimpArgs false
section
variable {w : World} {g : Nat} {κ : Nat → Nat} {s : St} {kb kc : Nat} {v : Value} {ws : List Wt} {A5 : Option Addr} {c5 : Nat}
theorem others_pr (i : Nat) (ws : List Wt) : (others i ws).map Wt.pr = (ws.map Wt.pr).filter fun p => decide (p.1 ≠ i) := by
  unfold others
  rw [List.filter_map]; rfl
/-- Writes that waited for a sector are gone. -/
theorem DskV.gone {A : Option Addr} {N cc : Nat} (h : DskV w g κ s kb kc (.slice A N cc) ws A5 c5) {w' : World} (i : Nat) (c' : Nat) (hr : w'.ownsRow 0 66 2 (.slice A (others i ws).length c') (others i ws).length (hds (others i ws))) (ht : Touch (fun k => Option.map Addr.block A = some k) w w')
    (hw : Wf { s with waits := s.waits.filter fun p => decide (p.1 ≠ i) }) :
    DskV (w'.setCell ⟨g, 2, none⟩ (.slice A (others i ws).length c')) g κ { s with waits := s.waits.filter fun p => decide (p.1 ≠ i) } kb kc (.slice A (others i ws).length c') (others i ws) A5 c5 := by
  have hA : ∀ k, Option.map Addr.block A = some k → κ k = 3 := fun k hk => h.vk k (by
    cases A with
    | none => cases hk
    | some a => simpa [Value.ownBlock] using hk)
  have T2 : Touch (fun k => κ k = 3) w w' := ht.more hA
  have T4 : Touch (fun k => κ k = 1 ∨ κ k = 3) w (w'.setCell ⟨g, 2, none⟩ (.slice A (others i ws).length c')) := (T2.more (F' := fun k => κ k = 1 ∨ κ k = 3) (fun k e => .inr e)).setCell (b := g) (.inl (.inl h.own)) 2 _
  have hgl := h.gl
  have ng : ¬ κ g = 3 := by rw [h.own]; omega
  have c : ∀ j, j ≠ 2 → (w'.setCell ⟨g, 2, none⟩ (.slice A (others i ws).length c')).cell? ⟨g, j, none⟩ = w.cell? ⟨g, j, none⟩ := fun j hj => (World.cell?_setCell_other _ _ _ _ (fun e => hj (by simpa using (Addr.mk.inj e).2.1.symm))).trans (T2.cell (p := ⟨g, j, none⟩) hgl ng)
  refine ⟨h.own, h.one, fun k hk => by rw [World.size_setCell]; exact Nat.lt_of_lt_of_le (h.lt k hk) ht.size, h.k2, (c 0 (by omega)).trans h.c0, (c 1 (by omega)).trans h.c1, World.cell?_setCell_same _ _ _ ((T2.cell (p := ⟨g, 2, none⟩) hgl ng).trans h.c2), (c 3 (by omega)).trans h.c3, (c 4 (by omega)).trans h.c4, (c 5 (by omega)).trans h.c5, (c 6 (by omega)).trans h.c6,
    fun j => by rw [World.frozen?_setCell]; exact (T2.frozen (p := ⟨g, j, none⟩) hgl ng).trans (h.free j), h.room, h.keptT T4 (fun k e => by omega), ?_, fun k hk => ?_, ?_, fun x hx => ?_, h.keepT T4 (fun k e => by omega) (fun _ _ => rfl), hw⟩
  · refine owns_touchN (F := fun k => k = g) hr ((Touch.refl (fun k => k = g) w').setCell (b := g) (.inl rfl) 2 _) (fun k hk e => ?_)
    have := hA k (by
      cases A with
      | none => cases hk
      | some a => simpa [Value.ownBlock] using hk)
    rw [e, h.own] at this
    omega
  · exact hA k (by
      cases A with
      | none => cases hk
      | some a => simpa [Value.ownBlock] using hk)
  · show (others i ws).map Wt.pr = s.waits.filter _
    rw [others_pr, h.wsE]
  · exact h.wsT T4 (fun k e => by omega) (fun _ _ => rfl) x (List.mem_filter.1 hx).1
set_option maxRecDepth 10000 in
set_option maxHeartbeats 2000000 in
theorem over_ok (h : Dsk w g κ s) (hm : s.steps ≤ 4294967294) (i : Nat) (A : Option Addr) (n c : Nat) (b : List Nat) (hl : b.length = n) (hb : ByL w (fun k => κ k = 0) A b) (hf : s.fits (i : Int) n = 0) :
    Calls Try.prog 22 #[.pointer (some ⟨g, 0, none⟩), .int .i64 (i : Int), .slice A n c] w (DskP g κ (s.over i b) (.int .i64 0) w) := by
  have hba := below_alloc w (.cells #[.int .i64 (i : Int)] 3)
  have hbox := heap_alloc_last w (.cells #[.int .i64 (i : Int)] 3)
  have hs0 : (w.alloc (.cells #[.int .i64 (i : Int)] 3)).cell? ⟨w.heap.size, 0, none⟩ = some (.int .i64 (i : Int)) := by rw [cell_of_row _ _ _ _ _ _ hbox]; rfl
  have hlt := h.lt
  have hd := h.below hba
  have C1 := Lib.hid (none_any hd)
  have C2 := Lib.hid (fits_any hd (i : Int) A n c)
  rw [hf] at C2
  have hwf := h.wf
  obtain ⟨hi, hn⟩ : i < s.n ∧ n = s.sz := by
    unfold St.fits at hf
    by_cases h1 : s.has (i : Int) = true
    · rw [if_pos h1] at hf
      by_cases h2 : n = s.sz
      · exact ⟨by have := (has_iff s (i : Int)).1 h1; omega, h2⟩
      · rw [if_neg h2] at hf; omega
    · rw [if_neg h1] at hf; omega
  have HWF := Lib.hid (hwf.over i b (by omega) hb.1)
  have HWP := Lib.hid (hwf.put i b (by omega) hb.1)
  have TB : Touch (fun k => κ k ≠ 0) w (w.alloc (.cells #[.int .i64 (i : Int)] 3)) := Touch.of _ hba
  have XB := hb.touch (ok' := fun k => κ k = 0) TB (fun k e h => h e) (fun _ _ e => e)
  have hsb : κ w.heap.size = 0 := by
    by_cases h0 : κ w.heap.size = 0
    · exact h0
    · have := hlt _ h0; omega
  obtain ⟨kb, kc, v, ws, A5, c5, hv⟩ := hd
  obtain ⟨A2, cc, rfl, hcc⟩ := row_form hv.row
  have hwl : ws.length ≤ 4294967296 := by have := hwf.ws; rw [← hv.wsE, List.length_map] at this; omega
  have HV := Lib.hid hv
  have HXB := Lib.hid XB
  have HTB := Lib.hid TB
  have HS0 := Lib.hid hs0
  have HSB := Lib.hid hsb
  have HBL := Lib.hid (show b.length = s.sz from by omega)
  obtain ⟨NW, hNW⟩ : ∃ N, N = ws.length := ⟨_, rfl⟩
  have HNW := Lib.hid hNW
  clear h hm hb hf hl hba hbox hs0 hlt hwf TB XB hsb hv hcc hNW
  subst hn
  go_enter Try.func22, Try.ntmps22
  go_wp2_with fail
  generalize w.alloc (.cells #[.int .i64 (i : Int)] 3) = w0 at *
  generalize w.heap.size = sb at *
  refine C1.out.mono ?_
  rintro en w' ⟨rfl, rfl⟩
  have hs1 := HS0.out
  go_wp2_with fail
  refine C2.out.mono ?_
  rintro en w1 ⟨rfl, m, rfl⟩
  have V1 := Lib.hid (HV.out.touch (touch_none (fun _ => False) w0 m) (fun _ _ h => h))
  have X1 := Lib.hid (HXB.out.touch (F := fun _ => False) (ok' := fun k => κ k = 0) (touch_none _ w0 m) (fun _ _ h => h) (fun _ _ e => e))
  have T1 := Lib.hid (HTB.out.drewN m)
  have S1 : (w0.drewN m).cell? ⟨sb, 0, none⟩ = some (.int .i64 (i : Int)) := HS0.out
  have HS1 := Lib.hid S1
  clear HV HXB HTB HS0 hs1 C1 C2
  generalize w0.drewN m = w1 at *
  have CA := Lib.hid (at_any V1.out i hi)
  go_wp2_with fail
  refine CA.out.mono ?_
  rintro en w2 ⟨rfl, m2, rfl⟩
  have V2 := V1.out.touch (touch_none (fun _ => False) w1 m2) (fun _ _ h => h)
  have X2 := X1.out.touch (F := fun _ => False) (ok' := fun _ => True) (touch_none _ w1 m2) (fun _ _ h => h) (fun _ _ _ => trivial)
  have CP := copy_run V2 i hi A c b HBL.out X2
  rw [HBL.out] at CP
  have CP1 := Lib.hid CP
  have V3 := V2.setKept i b hi HBL.out HWP.out
  have T3 := Lib.hid (Touch.setCells (F := fun k => κ k ≠ 0) (T1.out.drewN m2) (b := kb) (by rw [V2.k2]; omega) (nv .u8 b) (i * s.sz))
  have S3 : ((w1.drewN m2).setCells kb (i * s.sz) (nv .u8 b)).cell? ⟨sb, 0, none⟩ = some (.int .i64 (i : Int)) := by
    have hT : Touch (fun k => κ k = 2) (w1.drewN m2) ((w1.drewN m2).setCells kb (i * s.sz) (nv .u8 b)) := Touch.setCells (F := fun k => κ k = 2) (Touch.refl _ _) V2.k2 _ _
    exact (hT.cell (p := ⟨sb, 0, none⟩) (lt_of_cell (p := ⟨sb, 0, none⟩) HS1.out) (by rw [HSB.out]; omega)).trans HS1.out
  have c2 := V3.c2
  rw [← HNW.out] at c2
  have HV3 := Lib.hid V3
  have CD := Lib.hid (del_any _ A2 NW cc sb i ws HNW.out.symm (by rw [HNW.out]; exact hwl) (by have := V3.row; rw [← HNW.out] at this; exact this) S3 (fun e => by
    have h3 := V3.vk sb (by
      cases A2 with
      | none => cases e
      | some a => simpa [Value.ownBlock] using e)
    rw [HSB.out] at h3; omega))
  clear CP V2 X2 V3 S3 V1 X1 T1 S1 CA
  go_wp2_with (first | (with_reducible refine Arr.list_copy (.slice (some ⟨kb, i * s.sz, none⟩) s.sz (kc - i * s.sz)) (.slice A s.sz c) _ ((w1.drewN m2).setCells kb (i * s.sz) (nv .u8 b)) rfl rfl CP1.out ?_) | fail)
  generalize (w1.drewN m2).setCells kb (i * s.sz) (nv .u8 b) = w3 at *
  clear CP1 HS1
  refine CD.out.mono ?_
  rintro en w4 ⟨c', rfl, hr, hT⟩
  have V4 := HV3.out
  have hg3 : ¬ Option.map Addr.block A2 = some g := fun e => by
    have h3 := V4.vk g (by
      cases A2 with
      | none => cases e
      | some a => simpa [Value.ownBlock] using e)
    rw [V4.own] at h3; omega
  have c4 := (hT.cell (p := ⟨g, 2, none⟩) V4.gl hg3).trans c2
  have f4 := (hT.frozen (p := ⟨g, 2, none⟩) V4.gl hg3).trans (V4.free 2)
  have FX := Lib.hid (V4.gone (N := ws.length) i c' hr hT HWF.out)
  have FT := Lib.hid ((T3.out.trans hT (fun k hk => .inl (by
    have h3 := V4.vk k (by
      cases A2 with
      | none => cases hk
      | some a => simpa [Value.ownBlock] using hk)
    rw [h3]; omega))).setCell (b := g) (.inl (by rw [V4.own]; omega)) 2 (.slice A2 (others i ws).length c'))
  clear hr hT V4 hg3 CD c2 HV3
  generalize (others i ws).length = n4 at *
  go_wp2
  go_ret
  exact ⟨rfl, κ, ⟨_, _, _, _, _, _, FX.out⟩, FT.out, fun _ _ => rfl⟩
/-- What Overwrite leaves. -/
theorem over_any (h : Dsk w g κ s) (hm : s.steps ≤ 4294967294) (i : Int) (A : Option Addr) (n c : Nat) (b : List Nat) (hl : b.length = n) (hb : ByL w (fun k => κ k = 0) A b) :
    Calls Try.prog 22 #[.pointer (some ⟨g, 0, none⟩), .int .i64 i, .slice A n c] w (DskP g κ (s.overwrite i b).1 (.int .i64 ((s.overwrite i b).2 : Int)) w) := by
  by_cases hf : s.fits i n = 0
  · have hi : 0 ≤ i := by
      unfold St.fits at hf
      by_cases h1 : s.has i = true
      · exact ((has_iff s i).1 h1).1
      · rw [if_neg h1] at hf; omega
    have e1 : s.overwrite i b = (s.over i.toNat b, 0) := by unfold St.overwrite; rw [hl, if_neg (by omega)]
    rw [e1]
    have ei : i = ((i.toNat : Nat) : Int) := by omega
    have key := over_ok h hm i.toNat A n c b hl hb (by rw [← ei]; exact hf)
    rw [← ei] at key
    exact key
  · have e1 : s.overwrite i b = (s, s.fits i n) := by unfold St.overwrite; rw [hl, if_pos hf]
    rw [e1]
    have hba := below_alloc w (.cells #[.int .i64 i] 3)
    have hbox := heap_alloc_last w (.cells #[.int .i64 i] 3)
    have hs1 : (w.alloc (.cells #[.int .i64 i] 3)).cell? ⟨w.heap.size, 0, none⟩ = some (.int .i64 i) := by rw [cell_of_row _ _ _ _ _ _ hbox]; rfl
    have HD := Lib.hid (h.below hba)
    have HT := Lib.hid (show Touch (fun k => κ k ≠ 0) w (w.alloc (.cells #[.int .i64 i] 3)) from Touch.of _ hba)
    have C1 := Lib.hid (none_any HD.out)
    have C2 := Lib.hid (fits_any HD.out i A n c)
    have t1 : ((s.fits i n : Int) == 0) = false := by simp; omega
    have t2 : ((s.fits i n : Int) != 0) = true := by simp; omega
    clear h hm hl hb hf e1 hba hbox
    generalize s.fits i n = r at *
    go_enter Try.func22, Try.ntmps22
    go_wp2_with fail
    refine C1.out.mono ?_
    rintro en w' ⟨rfl, rfl⟩
    go_wp2_with fail
    refine C2.out.mono ?_
    rintro en w' ⟨rfl, m, rfl⟩
    have FD := Lib.hid (HD.out.below (below_drewN_self _ m))
    have FT := Lib.hid (HT.out.drewN m)
    go_wp2
    go_ret
    exact ⟨rfl, κ, FD.out, FT.out, fun _ _ => rfl⟩
end
end Go.Proofs.Ytfjaiolgbcindaa
