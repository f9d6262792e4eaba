/-
  Contract of kdf.derived: a derived key. Conditions: the tables stand in their variables; key and contexts lie below, in their slices; the contexts are fewer than 2^30, all together fewer than 2^60 bytes with the label; from 1 to 128 bytes are asked for.
-/
import Derived.Test.YtihpjkidoingfaaDoorKdState
import Derived.Test.YtihpjkidoingfaaDoorQuietTail2
import Derived.Deep.QuietTactic
import Derived.BigQuiet
namespace Go.Proofs.YtihpjkidoingfaaDoor
open Go.RowKit Arr Sh Hm Kd

/-- What stands ahead of the rounds: all parts, and the row of noughts. -/
structure Dk (w : World) (lab : List Nat) (cs : List (List Nat)) (n gp gm : Nat) (AP : Option Addr) (qs : List Pt) (wr : World) : Prop where
  dv : Dv w gp gm AP qs 0 (zs n) wr
  text : textOf qs = lab ++ (0 :: (ctx cs ++ bytesOf n 2))

set_option maxHeartbeats 2000000 in
theorem derived_any (ks : List Nat) (K : Option Addr) (n0 d0 : Nat) (hl : ks.length = n0) (hd0 : n0 ≤ d0) (hn0 : n0 < 1152921504606846976) (s : ByteArray) (n : Nat) (hn1 : 1 ≤ n) (hn2 : n ≤ 128) (ps : List Pt) (A : Option Addr) (N c : Nat) (hN : ps.length = N) (hN2 : N < 1073741824) (hT : ∀ i (h : i < ps.length), ps[i].bs.length ≤ 4611686018427387904)
    (hTT : s.size + (ctx (ps.map (·.bs))).length + 100 < 1152921504606846976) (w : World) (hb : Bys w w.heap.size K ks) (hp : Parts w w.heap.size A ps) (hv : VarsS w) :
    Calls Tryd.prog 15 #[.slice K n0 d0, .string s, .int .i64 (n : Int), .slice A N c] w (Drvd (der ks (labOf s) (ps.map (·.bs)) n) n w) := by
  have CF : Go.RowKit.Hid (∀ w4, Below w.heap.size w w4 → Calls Tryd.prog 21 #[.slice A N c] w4 (Framed (ps.map (·.bs)) N w.heap.size w4)) := Lib.hid (fun w4 h4 => framed_any ps A N c hN hN2 hT w.heap.size w4 h4.size (hp.below h4) (hv.below h4 (Nat.le_refl _)))
  have hn65 : n < 256 ^ 2 := by
    have : (256 : Nat) ^ 2 = 65536 := by decide
    omega
  have CP : Go.RowKit.Hid (∀ w6, Below w.heap.size w w6 → Calls Tryd.prog 19 #[.int .i64 (n : Int), .int .i64 2] w6 (PutSome n 2 w6)) := Lib.hid (fun w6 h6 => put_some n 2 (by omega) (by omega) (by omega) hn65 w6 (hv.below h6 (Nat.le_refl _)).vars.tab)
  have CT : Go.RowKit.Hid (∀ (wq : World) (AP : Option Addr) (qs : List Pt) (gp i M cM : Nat), Below w.heap.size w wq → Parts wq wq.heap.size AP (pl gp i :: qs) → textOf qs = labOf s ++ (0 :: (ctx (ps.map (·.bs)) ++ bytesOf n 2)) → qs.length + 1 = M → M < 4294967296 → (AP = none → cM = 0) →
      Calls Tryd.prog 22 #[.slice K n0 d0, .slice AP M cM] wq (GivesB (tag ks (kt (labOf s) (ps.map (·.bs)) n i)) wq)) := Lib.hid (fun wq AP qs gp i M cM hB hP ht hM hM2 hA => by
    have et : textOf (pl gp i :: qs) = kt (labOf s) (ps.map (·.bs)) n i := by rw [textOf_cons, ht]; rfl
    have hlen : (textOf (pl gp i :: qs)).length = s.size + (ctx (ps.map (·.bs))).length + 4 := by
      rw [et, kt]; simp only [List.length_cons, List.length_append, length_labOf, length_bytesOf]; omega
    have := Tag_any ks K n0 d0 hl hd0 hn0 (pl gp i :: qs) AP M cM (by rw [List.length_cons]; exact hM) hA hM2 (by rw [hlen]; omega) wq (hb.later hB) hP (hv.below hB (Nat.le_refl _))
    rwa [et] at this)
  have hmk : Go.RowKit.Hid (∀ W : World, (Instr.makeSlice 22 (.int .i64 (n : Int)) (.int .i64 (n : Int))).run Tryd.prog W = .ok (.slice (some ⟨W.heap.size, 0, none⟩) n n) (W.alloc (.cells (na .u8 (zs n)) 5))) := Lib.hid (fun W => by
    rw [← made_bytes]
    exact run_make_row' (P := Tryd.prog) 22 5 (.int .u8 0) 1 Tryd.underlying22 info_u8 rfl .i64 .i64 n (by omega) (by omega) W)
  have CV : Go.RowKit.Hid (∀ W : World, ∃ cp W', (Go.convert 9 22 (.string s)).run Tryd.prog W = .ok (.slice (some ⟨W.heap.size, 0, none⟩) s.size cp) W' ∧ s.size ≤ cp ∧ Bys W' W'.heap.size (some ⟨W.heap.size, 0, none⟩) (labOf s) ∧ W'.heap.size = W.heap.size + 1 ∧ Below W.heap.size W W') := Lib.hid (run_label s)
  have LL := Lib.hid (length_labOf s)
  have FL := length_kf ks (labOf s) (ps.map (·.bs)) n
  have FP := Lib.hid (kf_part ks (labOf s) (ps.map (·.bs)) n)
  have HF : Go.RowKit.Hid (der ks (labOf s) (ps.map (·.bs)) n = (kf ks (labOf s) (ps.map (·.bs)) n).take n) := Lib.hid rfl
  have P1 : Go.RowKit.Hid (Holds (w.alloc (.cells #[.int .u8 0] 5)) w.heap.size .u8 [0]) := Lib.hid (Holds.new w 5 .u8 [0])
  have B1 := Lib.hid (below_alloc w (.cells #[.int .u8 0] 5))
  have S1 : Go.RowKit.Hid ((w.alloc (.cells #[.int .u8 0] 5)).heap.size = w.heap.size + 1) := Lib.hid (World.size_alloc ..)
  clear hn65 hb hp hv hT hTT hl hN
  generalize hcs : ps.map (·.bs) = cs at *
  clear hcs
  generalize hlab : labOf s = lab at *
  clear hlab
  generalize hF : kf ks lab cs n = F at *
  have EF := Lib.hid hF
  clear hF
  go_enter Tryd.func15, Tryd.ntmps15
  go_upto_region 2 with fail
  generalize w.alloc (.cells #[.int .u8 0] 5) = w1 at *
  obtain ⟨cp, w2, hr2, hcp, hY2, hs2, hB2⟩ := CV.out w1
  have q1 := S1.out
  -- the {0} block, the three heads
  have z3 : Holds (w2.alloc (.cells #[.int .u8 0] 5)) w2.heap.size .u8 [0] := Holds.new w2 5 .u8 [0]
  have b3 := below_alloc w2 (.cells #[.int .u8 0] 5)
  have s3 : (w2.alloc (.cells #[.int .u8 0] 5)).heap.size = w2.heap.size + 1 := World.size_alloc ..
  have p3 := (P1.out.below hB2 (by omega)).below b3 (by omega)
  have y3 := hY2.later b3
  have lz : ∀ x, x ∈ [0] → x < 256 := fun x hx => by rw [List.mem_singleton.1 hx]; omega
  have R4 := PRow.lit (w2.alloc (.cells #[.int .u8 0] 5)) (w2.heap.size + 1) (by omega) [pl w.heap.size 0, ⟨some ⟨w1.heap.size, 0, none⟩, cp, lab⟩, ⟨some ⟨w2.heap.size, 0, none⟩, 1, [0]⟩] 3 rfl (by omega)
    #[.slice (some ⟨w.heap.size, 0, none⟩) 1 1, .slice (some ⟨w1.heap.size, 0, none⟩) s.size cp, .slice (some ⟨w2.heap.size, 0, none⟩) 1 1] (by rw [← LL.out]; rfl) (fun q hq => by
      simp only [List.mem_cons, List.not_mem_nil, or_false] at hq
      rcases hq with rfl | rfl | rfl
      · exact ⟨Nat.le_refl _, bys_of_holds p3 lz⟩
      · exact ⟨by show lab.length ≤ cp; rw [LL.out]; exact hcp, y3⟩
      · exact ⟨Nat.le_refl _, bys_of_holds z3 lz⟩)
  rw [s3] at R4
  have b4 := below_alloc (w2.alloc (.cells #[.int .u8 0] 5)) (.cells #[.slice (some ⟨w.heap.size, 0, none⟩) 1 1, .slice (some ⟨w1.heap.size, 0, none⟩) s.size cp, .slice (some ⟨w2.heap.size, 0, none⟩) 1 1] 22)
  have B4 := Lib.hid (B1.out.trans ((hB2.mono (by omega)).trans ((b3.mono (by omega)).trans (b4.mono (by omega)))))
  have s4 : ((w2.alloc (.cells #[.int .u8 0] 5)).alloc (.cells #[.slice (some ⟨w.heap.size, 0, none⟩) 1 1, .slice (some ⟨w1.heap.size, 0, none⟩) s.size cp, .slice (some ⟨w2.heap.size, 0, none⟩) 1 1] 22)).heap.size = w2.heap.size + 1 + 1 := by rw [World.size_alloc, s3]
  have HR4 := Lib.hid R4
  have P4 := Lib.hid (p3.below b4 (by omega))
  have HS4 := Lib.hid s4
  have HS2 := Lib.hid hs2
  have HS1 := Lib.hid q1
  have HR2 := Lib.hid hr2
  clear R4 b4 b3 s3 s4 p3 y3 z3 hB2 hY2 hs2 q1 hr2 hcp P1 B1 S1 CV
  go_wp2_with (first | (with_reducible refine Arr.list_convert (.string s) (.slice (some ⟨w1.heap.size, 0, none⟩) s.size cp) w2 rfl HR2.out ?_) | fail)
  generalize (w2.alloc (.cells #[.int .u8 0] 5)).alloc (.cells #[.slice (some ⟨w.heap.size, 0, none⟩) 1 1, .slice (some ⟨w1.heap.size, 0, none⟩) s.size cp, .slice (some ⟨w2.heap.size, 0, none⟩) 1 1] 22) = w4 at *
  refine (CF.out w4 B4.out).mono ?_
  rintro e w5 ⟨v5, qs5, rfl, hrow5, hl5, ht5, ho5, hB5⟩
  have hs1 := HS1.out
  have hs2 := HS2.out
  have hs4 := HS4.out
  obtain ⟨A5, c5, rfl, hA5, hP5, _⟩ := hrow5.parts
  obtain ⟨m5, em5⟩ : ∃ m5, m5 = qs5.length := ⟨_, rfl⟩
  rw [← em5] at hl5 ⊢
  have R5 := Lib.hid (HR4.out.later hB5)
  have hw5 := hB5.size
  have B5 := Lib.hid (B4.out.trans (hB5.mono B4.out.size))
  have p5 := P4.out.below hB5 (by omega)
  have O5 : Go.RowKit.Hid (∀ q ∈ qs5, Off q (fun b => (Value.slice (some ⟨w2.heap.size + 1, 0, none⟩) 3 3).ownBlock = some b)) := Lib.hid (fun q hq hl b off s' e h => ho5 q hq hl b off s' e (by
    have : w2.heap.size + 1 = b := by simpa [Value.ownBlock] using h
    omega))
  have m5b : 3 + m5 ≤ 4294967296 := by omega
  have hbase5 : w2.heap.size + 1 ≤ w5.heap.size := by omega
  have HP5 := Lib.hid hP5
  have HQ5 := Lib.hid (And.intro hl5 (And.intro ht5 ho5))
  have HPL := Lib.hid p5
  have g12 : w.heap.size < w2.heap.size := by omega
  have g14 : w.heap.size < w4.heap.size := by omega
  have EM5 := Lib.hid em5
  have HH5 := Lib.hid hA5
  clear hP5 hl5 ht5 ho5 p5 hs1 hs2 hs4 hrow5 hB5 P4 HR4 HS4 em5 hA5 hw5
  go_upto_region 3 with (at_builtin; refine append_parts rfl (.tmp 21) (.tmp 23) rfl (w2.heap.size + 1) (.slice (some ⟨w2.heap.size + 1, 0, none⟩) 3 3) [pl w.heap.size 0, ⟨some ⟨w1.heap.size, 0, none⟩, cp, lab⟩, ⟨some ⟨w2.heap.size, 0, none⟩, 1, [0]⟩] qs5 rfl R5.out A5 m5 c5 rfl EM5.out.symm HH5.out HP5.out O5.out m5b hbase5 ?_; intro v6 w6 hrow6 hgr6 hbel6)
  have B6 := Lib.hid (B5.out.trans (hbel6.mono (by omega)))
  have pl6 := Lib.hid (HPL.out.below hbel6 (by omega))
  have R6 := Lib.hid hrow6
  have hb6 : w2.heap.size + 1 ≤ w6.heap.size := Nat.le_trans hbase5 hbel6.size
  have h56 := hbel6.size
  clear hrow6 hgr6 hbel6 R5 O5 HH5 HPL hbase5 B5
  go_wp2_with fail
  refine (CP.out w6 B6.out).mono ?_
  rintro e w7 ⟨arr7, hla7, rfl, hw7⟩
  have hY7 := hla7.bys w6
  rw [← hw7] at hY7
  have hB7 : Below w6.heap.size w6 w7 := by rw [hw7]; exact below_alloc _ _
  have hs7 : w7.heap.size = w6.heap.size + 1 := by rw [hw7, World.size_alloc]
  rw [← hs7] at hY7
  clear hw7 hla7
  have R7 := R6.out.later hB7
  have P8 := Lib.hid (Parts.one w7 (bytesOf n 2) (some ⟨w6.heap.size, 0, none⟩) 2 2 (length_bytesOf n 2) (Nat.le_refl _) hY7)
  have b8 := below_alloc w7 (.cells #[.slice (some ⟨w6.heap.size, 0, none⟩) 2 2] 22)
  have R8 := Lib.hid (R7.later b8)
  have p8 := Lib.hid ((pl6.out.below hB7 (by omega)).below b8 (by omega))
  have B8 := Lib.hid (B6.out.trans ((hB7.mono B6.out.size).trans (b8.mono (by have := B6.out.size; omega))))
  have O8 : Go.RowKit.Hid (∀ q ∈ [(⟨some ⟨w6.heap.size, 0, none⟩, 2, bytesOf n 2⟩ : Pt)], Off q (fun b => v6.ownBlock = some b)) := Lib.hid (fun q hq hl b off s' e h => by
    rw [List.mem_singleton] at hq
    subst hq
    cases e
    have := R6.out.own.lt _ h
    omega)
  have L8 : ([pl w.heap.size 0, ⟨some ⟨w1.heap.size, 0, none⟩, cp, lab⟩, ⟨some ⟨w2.heap.size, 0, none⟩, 1, [0]⟩] ++ qs5).length + 1 ≤ 4294967296 := by
    rw [List.length_append, ← EM5.out]; show 3 + m5 + 1 ≤ _; have := HQ5.out.1; omega
  have h8 : w2.heap.size + 1 ≤ (w7.alloc (.cells #[.slice (some ⟨w6.heap.size, 0, none⟩) 2 2] 22)).heap.size := by rw [World.size_alloc]; omega
  have HS7 := Lib.hid hs7
  clear R7 b8 hY7 hB7 R6 pl6 B6 hs7
  go_upto_region 5 with (at_builtin; refine append_parts rfl (.tmp 30) (.tmp 32) rfl (w2.heap.size + 1) v6 _ [⟨some ⟨w6.heap.size, 0, none⟩, 2, bytesOf n 2⟩] rfl R8.out (some ⟨w7.heap.size, 0, none⟩) 1 1 rfl rfl (fun h => by cases h) P8.out O8.out L8 h8 ?_; intro v9 w9 hrow9 hgr9 hbel9)
  obtain ⟨A9, c9, rfl, hA9, hP9, hlt9⟩ := hrow9.parts
  obtain ⟨QS, eQS⟩ : ∃ QS : List Pt, QS = ⟨some ⟨w1.heap.size, 0, none⟩, cp, lab⟩ :: ⟨some ⟨w2.heap.size, 0, none⟩, 1, [0]⟩ :: (qs5 ++ [⟨some ⟨w6.heap.size, 0, none⟩, 2, bytesOf n 2⟩]) := ⟨_, rfl⟩
  obtain ⟨M, eM⟩ : ∃ M, M = (([pl w.heap.size 0, ⟨some ⟨w1.heap.size, 0, none⟩, cp, lab⟩, ⟨some ⟨w2.heap.size, 0, none⟩, 1, [0]⟩] : List Pt) ++ qs5 ++ ([⟨some ⟨w6.heap.size, 0, none⟩, 2, bytesOf n 2⟩] : List Pt)).length := ⟨_, rfl⟩
  rw [← eM]
  have hP9' : Parts w9 w9.heap.size A9 (pl w.heap.size 0 :: QS) := by rw [eQS]; exact hP9
  have hM : QS.length + 1 = M := by rw [eM, eQS]; simp
  have hM2 : M < 4294967296 := by
    have : M = m5 + 4 := by rw [eM, EM5.out]; simp
    have := HQ5.out.1
    omega
  have h89 := hbel9.size
  have g9 : w6.heap.size < w9.heap.size := by rw [World.size_alloc] at h89; have := HS7.out; omega
  have D10 : Dk w lab cs n w.heap.size w9.heap.size A9 QS (w9.alloc (.cells (na .u8 (zs n)) 5)) := by
    have q1 := HS1.out
    have q2 := HS2.out
    refine ⟨⟨hP9'.later (below_alloc w9 _), fun b off s' e => ?_, fun q hq => ?_, (p8.out.below hbel9 (by omega)).alloc _, Holds.new w9 5 .u8 (zs n), (B8.out.trans (hbel9.mono (by omega))).trans ((below_alloc w9 _).mono (by omega))⟩, ?_⟩
    · have := hlt9 b off s' e; omega
    · rw [eQS] at hq
      simp only [List.mem_cons, List.mem_append, List.not_mem_nil, or_false] at hq
      rcases hq with rfl | rfl | hq | rfl
      · intro _ b off s' e; cases e; omega
      · intro _ b off s' e; cases e; omega
      · intro hl b off s' e h
        obtain ⟨j, hj, rfl⟩ := List.getElem_of_mem hq
        obtain ⟨b', off', e', hlt', _⟩ := (HP5.out.each j hj).2.2 hl
        rw [e] at e'
        cases e'
        rcases h with h | h
        · exact HQ5.out.2.2 _ hq hl _ _ _ e ⟨by omega, by omega⟩
        · omega
      · intro _ b off s' e; cases e; omega
    · rw [eQS, textOf_cons, textOf_cons, textOf_append, HQ5.out.2.1, textOne]; rfl
  have HD10 := Lib.hid D10
  have hm10 := hmk.out w9
  have G1 : w.heap.size < w9.heap.size := by omega
  have HA9 := Lib.hid hA9
  clear D10 hP9' hP9 hlt9 hrow9 hgr9 hbel9 hA9 eM eQS p8 B8 R8 P8 O8 L8 h8 h89 g9 HQ5 HP5 HS7 hmk h56 hb6
  go_upto_region 7 with fail
  generalize w9.alloc (.cells (na .u8 (zs n)) 5) = w10 at *
  clear hm10
  generalize w9.heap.size = gm at *
  obtain ⟨gp, egp⟩ : ∃ gp, gp = w.heap.size := ⟨_, rfl⟩
  have hgp : w.heap.size ≤ gp := by omega
  have hgm : w.heap.size ≤ gm := by omega
  have hne : gp ≠ gm := by omega
  rw [← egp] at HD10
  have EGP := Lib.hid egp
  clear egp
  rw [← EGP.out]
  go_loopw [14] (fun v wr => ∃ i d : Nat, i ≤ 4 ∧ d ≤ n ∧ Go.RowKit.Hid (d = min n (32 * i)) ∧ v = .int .i64 (d : Nat) ∧ Dv w gp gm A9 QS i (st F n d) wr) (fun v _ => n - (intOf v).toNat)
  case atStart => exact ⟨0, 0, by omega, by omega, Lib.hid (by simp), rfl, by rw [st_zero]; exact HD10.out.dv⟩
  case round =>
    obtain ⟨i, d, hi, hd, hdi, rfl, hdv⟩ := hrel
    by_cases hlt : d < n
    · as_aux_lemma =>
      have tt : decide ((d : Int) < (n : Int)) = true := by simp; omega
      have hd32 : d = 32 * i := by have := hdi.out; omega
      have hi4 : i < 4 := by omega
      have cpl : wr.cell? ⟨gp, 0, none⟩ = some (.int .u8 (i : Int)) := hdv.place.cell 0 (by simp)
      have fpl := hdv.place.frozen 0 (by simp)
      have hput := hdv.put hgp hne (i + 1) (by omega)
      have ec : ((i + 1 : Nat) : Int) = (i : Int) + 1 := by omega
      rw [ec] at hput
      have HPUT := Lib.hid hput
      have LM := Lib.hid (length_st F n d FL hn2 hd)
      have C : Go.RowKit.Hid (∀ wq, Dv w gp gm A9 QS (i + 1) (st F n d) wq → Calls Tryd.prog 22 #[.slice K n0 d0, .slice A9 M c9] wq (GivesB ((F.drop d).take 32) wq)) := Lib.hid (fun wq h => by
        have := CT.out wq A9 QS gp (i + 1) M c9 h.bel h.parts HD10.out.text hM hM2 HA9.out
        rw [← FP.out i hi4, ← hd32] at this
        exact this)
      have LT : ((F.drop d).take 32).length = 32 := by simp; omega
      obtain ⟨ml, eml⟩ : ∃ ml, ml = min 32 (n - d) := ⟨_, rfl⟩
      have hml1 : 1 ≤ ml := by omega
      have hml2 : ml ≤ 32 := by omega
      have hml3 : d + ml ≤ n := by omega
      have hdn : Go.RowKit.Hid (d + ml = min n (32 * (i + 1))) := Lib.hid (by omega)
      have hmn : ml = Nat.min 32 (n - d) := eml
      have HMN := Lib.hid hmn
      have HST := Lib.hid (st_step F n d ml FL hn2 hml3 hml2)
      have wml : IntKind.i64.wrap ((d : Int) + (ml : Int)) = (d : Int) + (ml : Int) := by rw [IntKind.wrap_i64]; omega
      clear hdv hput ec hd32 eml hmn hdi FP CT EF
      generalize (F.drop d).take 32 = tg at *
      have HX : Go.RowKit.Hid (∀ wd, Dv w gp gm A9 QS (i + 1) (st F n d) wd → Dv w gp gm A9 QS (i + 1) (st F n (d + ml)) (wd.setCells gm d (nv .u8 (tg.take ml)))) := Lib.hid (fun wd h => by
        rw [← HST.out]
        exact h.lay hgm hne d (tg.take ml) (by rw [LM.out, List.length_take, LT]; omega))
      go_upto_region 9 with fail
      generalize wr.setCell ⟨gp, 0, none⟩ (.int .u8 ((i : Int) + 1)) = wq at *
      clear cpl fpl
      have C1 := Lib.hid (C.out wq HPUT.out)
      clear C
      go_wp2_with fail
      refine C1.out.mono ?_
      rintro e wt ⟨rfl, hBt⟩
      have hst : 0 < (st F n d).length := by rw [LM.out]; omega
      have dt := HPUT.out.next hst hBt
      have b5 := below_setCells (b := wt.heap.size) (Nat.le_refl _) (nv .u8 tg) 0 _ (below_alloc wt (.cells (na .u8 (zs 32)) 43))
      have A5 := Holds.new wt 43 .u8 (zs 32)
      have H5 := Lib.hid A5
      have H6 := Lib.hid (A5.put tg (by rw [LT, length_zs]))
      have H7 := Lib.hid (dt.next hst b5)
      clear dt b5 A5 hBt C1 HPUT hst
      go_upto_region 10 with (first | (with_reducible refine Arr.alloc (t := 43) _ z32 ?_) | (with_reducible refine Arr.store o32 wt.heap.size (zs 32) tg (length_zs _) H5.out LT rfl rfl ?_) | fail)
      generalize (wt.alloc (.cells (na .u8 (zs 32)) 43)).setCells wt.heap.size 0 (nv .u8 tg) = w6 at *
      clear H5
      have hs2 := fun W : World => sliceW o32 W wt.heap.size 0
      generalize wt.heap.size = g at *
      have hsl : ∀ W : World, (Instr.slice 22 (.slice (some ⟨gm, 0, none⟩) n n) (some (.int .i64 (d : Int))) none none).run Tryd.prog W = .ok (.slice (some ⟨gm, d, none⟩) (n - d) (n - d)) W := fun W => by
        rw [run_cut_l _ n n d (by omega) W, cutA, if_neg (by omega), Option.map_some, add_nat, Nat.zero_add]
      refine region_move_quiet_tail 5 (by kernel_rfl) (by kernel_rfl) (.tmp 14) (.int .i64 (d : Int)) rfl rfl rfl (fun _ _ _ _ h => h) ?_
      simp only [List.take_succ_cons, List.take_zero, List.drop_succ_cons, List.drop_zero, Nat.add_one_sub_one, Act.put, List.setIfInBounds_toArray, List.set_cons_zero, List.set_cons_succ]
      repeat (go_big_quiet_step (fail))
      refine wpQuiet_nil ?_
      intro wd hwd
      have bd : Below w6.heap.size w6 wd := by obtain ⟨k, rfl⟩ := hwd; exact below_drewN (Below.refl _ _) k
      have K6 : Holds wd g .u8 tg := H6.out.below bd (H6.out.lt (by omega))
      have KD : Dv w gp gm A9 QS (i + 1) (st F n d) wd := H7.out.next (by rw [LM.out]; omega) bd
      clear hwd H6 H7 bd
      have part := (Holds.at0 KD.made).part d (n - d) (by rw [LM.out]; omega)
      rw [Nat.zero_add] at part
      have lt2 : (tg.take ml).length = ml := by rw [List.length_take, LT]; omega
      have CN := run_copy_bytes (P := Tryd.prog) wd 22 22 3 5 Tryd.underlying22 info1_u8 gm d (n - d) (n - d) g 0 32 32 _ (tg.take ml) part (by rw [lt2]; exact HMN.out) (by rw [lt2, List.length_take, List.length_drop, LM.out]; omega) (fun j hj => by
        rw [lt2] at hj
        have e : (tg.take ml).getD j 0 = tg.getD j 0 := by
          have h1 : j < tg.length := by omega
          simp [hj, h1]
        rw [Nat.zero_add, K6.cell j (by omega), e])
      rw [lt2] at CN
      have HCN := Lib.hid CN
      have X := Lib.hid (HX.out wd KD)
      clear CN KD K6 part HX HST
      generalize tg.take ml = tm at *
      go_wp2_with (first | (with_reducible refine Arr.list_copy (.slice (some ⟨gm, d, none⟩) (n - d) (n - d)) (.slice (some ⟨g, 0, none⟩) 32 32) _ (wd.setCells gm d (nv .u8 tm)) rfl rfl HCN.out ?_) | fail)
      go_roundw
      case rel => exact ⟨i + 1, d + ml, by omega, by omega, hdn, by go_num, X.out⟩
      case measure => simp [intOf]; omega
    · as_aux_lemma =>
      obtain rfl : d = n := by omega
      have tt : decide ((d : Int) < (d : Int)) = false := by simp
      have HDV := Lib.hid hdv
      clear hdv
      go_wp2_with fail
      go_ret
      exact ⟨gm, rfl, hgm, by rw [HF.out, ← st_all]; exact HDV.out.made, HDV.out.bel⟩
end Go.Proofs.YtihpjkidoingfaaDoor
