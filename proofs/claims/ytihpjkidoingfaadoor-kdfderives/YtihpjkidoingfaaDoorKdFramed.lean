/-
  Contract of kdf.framed: contexts, each behind the number of its bytes. Conditions: the tables stand in their variables; the contexts lie below, in their slices, fewer than 2^30, none of more than 2^62 bytes.
-/
import Derived.Test.YtihpjkidoingfaaDoorBaseAll
import Derived.Test.YtihpjkidoingfaaDoorKdRow
import Derived.Test.YtihpjkidoingfaaDoorKdNum
import Derived.Test.YtihpjkidoingfaaDoorHmFns
namespace Go.Proofs.YtihpjkidoingfaaDoor
open Go.RowKit Arr Sh Hm Kd

/-- What framed leaves. -/
def Framed (cs : List (List Nat)) (N B : Nat) (w : World) (e : Ending) (w' : World) : Prop :=
  ∃ v qs, e = .returned v ∧ PRow w' w.heap.size v qs ∧ qs.length = 2 * N ∧ textOf qs = ctx cs ∧ (∀ q ∈ qs, Off q (fun b => B ≤ b ∧ b < w.heap.size)) ∧ Below w.heap.size w w'
theorem textOf_append (ps qs : List Pt) : textOf (ps ++ qs) = textOf ps ++ textOf qs := by simp [textOf]
theorem off_below {w : World} {B : Nat} {q : Pt} (h : Bys w B q.A q.bs) {no : Nat → Prop} (hno : ∀ b, b < B → ¬ no b) : Off q no := fun hl b off s e => by
  obtain ⟨b', off', e', hb, _⟩ := h.2 hl
  rw [e] at e'
  cases e'
  exact hno b hb
theorem Bys.addr {w : World} {B : Nat} {A : Option Addr} {bs : List Nat} (h : Bys w B A bs) (hl : 0 < bs.length) : ∃ b off, A = some ⟨b, off, none⟩ ∧ b < B := by
  obtain ⟨b, off, e, hb, _⟩ := h.2 hl; exact ⟨b, off, e, hb⟩

set_option maxHeartbeats 2000000 in
theorem framed_any (ps : List Pt) (A : Option Addr) (N c : Nat) (hN : ps.length = N) (hN2 : N < 1073741824) (hT : ∀ i (h : i < ps.length), ps[i].bs.length ≤ 4611686018427387904) (B : Nat) (w : World) (hB : B ≤ w.heap.size) (hp : Parts w B A ps) (hv : VarsS w) :
    Calls Tryd.prog 21 #[.slice A N c] w (Framed (ps.map (·.bs)) N B w) := by
  obtain ⟨cs, ecs⟩ : ∃ cs, cs = ps.map (·.bs) := ⟨_, rfl⟩
  rw [← ecs]
  have hcsN : cs.length = N := by rw [ecs, List.length_map, hN]
  have SN : Go.RowKit.Hid (∀ t, (ht : t < N) → ∀ h : t < ps.length, ctx (cs.take (t + 1)) = ctx (cs.take t) ++ (bytesOf ps[t].bs.length 8 ++ ps[t].bs)) := Lib.hid (fun t ht h => by
    rw [ctx_snoc cs t (by omega)]
    have : cs[t]'(by omega) = ps[t].bs := by simp [ecs]
    rw [this])
  have CA : Go.RowKit.Hid (cs.take N = cs) := Lib.hid (List.take_of_length_le (by omega))
  have hmk : Go.RowKit.Hid (∀ W : World, ∃ arr : Array Value, arr.size = 2 * N ∧ (Instr.makeSlice 23 (.int .i64 0) (.int .i64 (2 * (N : Int)))).run Tryd.prog W = .ok (.slice (some ⟨W.heap.size, 0, none⟩) 0 (2 * N)) (W.alloc (.cells arr 22))) := Lib.hid (fun W => by
    obtain ⟨i0, h1, hz0, hz1, hz2⟩ := info_parts info_bytes
    have hr := run_make (P := Tryd.prog) W 23 22 i0 (.slice none 0 0) Tryd.underlying23 h1 hz0 .i64 .i64 0 (2 * (N : Int)) (by omega) (by omega) (by rw [hz2]; omega) (by omega)
    have e1 : (2 * (N : Int)).toNat = 2 * N := by omega
    rw [e1, hz1] at hr
    exact ⟨_, by rw [size_madeCells]; omega, hr⟩)
  have wN : IntKind.i64.wrap (2 * (N : Int)) = 2 * (N : Int) := by rw [IntKind.wrap_i64]; omega
  have HN := Lib.hid hN
  have HT := Lib.hid hT
  have HV := Lib.hid hv
  have HP := Lib.hid hp
  clear hN hT hv hp ecs hcsN
  go_enter Tryd.func21, Tryd.ntmps21
  obtain ⟨arr, harr, hm1⟩ := hmk.out w
  have O1 : Go.RowKit.Hid (PRow (w.alloc (.cells arr 22)) w.heap.size (.slice (some ⟨w.heap.size, 0, none⟩) 0 (2 * N)) []) := Lib.hid ⟨World.ownsRow_made w arr (2 * N) (Nat.le_refl _) (by unfold maxLen; omega) (by omega), fun q hq => absurd hq (List.not_mem_nil)⟩
  have B1 := Lib.hid (below_alloc w (.cells arr 22))
  clear hmk harr
  go_upto_region 3 with fail
  generalize w.alloc (.cells arr 22) = w1 at *
  clear hm1
  go_loopw [3, 12] (fun v i wr => ∃ (t : Nat) (qs : List Pt), t ≤ N ∧ i = .int .i64 (t : Nat) ∧ PRow wr w.heap.size v qs ∧ qs.length = 2 * t ∧ textOf qs = ctx (cs.take t) ∧ (∀ q ∈ qs, Off q (fun b => B ≤ b ∧ b < w.heap.size)) ∧ Below w.heap.size w wr) (fun _ i _ => N - (intOf i).toNat)
  case atStart => exact ⟨0, [], by omega, rfl, O1.out, rfl, rfl, fun q hq => absurd hq (List.not_mem_nil), B1.out⟩
  case round =>
    clear O1 B1
    obtain ⟨t, qs, ht, rfl, hrow, hql, hqt, hqo, hbel⟩ := hrel
    by_cases hlt : t < N
    · as_aux_lemma =>
      have tt : decide ((t : Int) < (N : Int)) = true := by simp; omega
      have ti : (t : Int) < (N : Int) := by omega
      have tl : t < ps.length := by rw [HN.out]; exact hlt
      have wt : IntKind.i64.wrap ((t : Int) + 1) = (t : Int) + 1 := by rw [IntKind.wrap_i64]; omega
      obtain ⟨pb, po, rfl, hpb, hpc⟩ := (HP.out.below (hbel.mono hB)).heads (by omega)
      have cp := hpc t tl
      have he := (HP.out.below (hbel.mono hB)).each t tl
      have hbt := HT.out t tl
      have hsn := Lib.hid (SN.out t hlt tl)
      have HE1 := Lib.hid he.1
      have HE2 := Lib.hid he.2
      have HROW := Lib.hid hrow
      have HQ := Lib.hid (And.intro hql (And.intro hqt hqo))
      have HBEL := Lib.hid hbel
      clear hpc he hrow hql hqt hqo hbel
      generalize ps[t].bs = ib at *
      obtain ⟨il, eil⟩ : ∃ il, il = ib.length := ⟨_, rfl⟩
      rw [← eil] at hbt hsn HE1 cp
      have EIL := Lib.hid eil
      clear eil
      generalize ps[t].A = iA at *
      generalize ps[t].c = ic at *
      go_wp2_with fail
      refine (number_any il hbt wr (HV.out.below HBEL.out (Nat.le_refl _)).vars.tab).mono ?_
      rintro e w2 ⟨arr2, hla, rfl, hw2⟩
      have hY2 := hla.bys wr
      rw [← hw2] at hY2
      have hB2 : Below wr.heap.size wr w2 := by rw [hw2]; exact below_alloc _ _
      have hs2 : w2.heap.size = wr.heap.size + 1 := by rw [hw2, World.size_alloc]
      clear hw2 hla
      rw [← hs2] at hY2
      have hrow2 := HROW.out.later hB2
      have hI2 := HE2.out.below (hB2.mono (Nat.le_trans hB HBEL.out.size))
      have hsw := HBEL.out.size
      have hP := Parts.two w2 (bytesOf il 8) ib (some ⟨wr.heap.size, 0, none⟩) iA 8 8 il ic (length_bytesOf il 8) (Nat.le_refl _) hY2 EIL.out.symm HE1.out (hI2.more (by omega))
      have hB3 := below_alloc w2 (.cells #[.slice (some ⟨wr.heap.size, 0, none⟩) 8 8, .slice iA il ic] 22)
      have hrow3 := hrow2.later hB3
      have hb3 := HBEL.out.trans ((hB2.mono hsw).trans (hB3.mono (by omega)))
      have HOFF : ∀ no : Nat → Prop, ¬ no wr.heap.size → (∀ b, b < B → ¬ no b) → ∀ q ∈ [(⟨some ⟨wr.heap.size, 0, none⟩, 8, bytesOf il 8⟩ : Pt), ⟨iA, ic, ib⟩], Off q no := by
        intro no h1 h2 q hq
        simp only [List.mem_cons, List.not_mem_nil, or_false] at hq
        rcases hq with rfl | rfl
        · intro _ b off s e; cases e; exact h1
        · exact off_below HE2.out h2
      have hlt' := HROW.out.own.lt
      have HO1 := HOFF (fun b => u3.ownBlock = some b) (fun h => by have := hlt' _ h; omega) (fun b hb h => by have := hlt' _ h; omega)
      have HO2 := HOFF (fun b => B ≤ b ∧ b < w.heap.size) (fun h => by omega) (fun b hb h => by omega)
      have H3 := Lib.hid hrow3
      have HP3 := Lib.hid hP
      have HB3 := Lib.hid hb3
      have HO := Lib.hid HO1
      have HO' := Lib.hid HO2
      have hq2 := HQ.out.1
      have hbase : w.heap.size ≤ (w2.alloc (.cells #[.slice (some ⟨wr.heap.size, 0, none⟩) 8 8, .slice iA il ic] 22)).heap.size := hb3.size
      clear HOFF HO1 HO2 hrow3 hP hb3 hB3 hI2 hrow2 hY2 hlt' HROW hs2
      go_wp2_with (at_builtin; refine append_parts rfl (.tmp 16) (.tmp 21) rfl w.heap.size u3 qs [⟨some ⟨wr.heap.size, 0, none⟩, 8, bytesOf il 8⟩, ⟨iA, ic, ib⟩] rfl H3.out (some ⟨w2.heap.size, 0, none⟩) 2 2 rfl rfl (fun h => by cases h) HP3.out HO.out (by omega) hbase ?_; intro v4 w4 hrow4 hgr4 hbel4)
      have h4 := HB3.out.trans hbel4
      have HB4 := Lib.hid h4
      have H4 := Lib.hid hrow4
      clear h4 hrow4 hgr4 hbel4 H3 HP3 HB3 HO hbase
      go_wp2_with fail
      go_roundw
      case rel =>
        refine ⟨t + 1, qs ++ [⟨some ⟨wr.heap.size, 0, none⟩, 8, bytesOf il 8⟩, ⟨iA, ic, ib⟩], by omega, by go_num, H4.out, by rw [List.length_append, hq2]; simp; omega, ?_, fun q hq => ?_, HB4.out⟩
        · rw [textOf_append, HQ.out.2.1, textTwo, hsn.out]
        · rcases List.mem_append.1 hq with hq | hq
          · exact HQ.out.2.2 q hq
          · exact HO'.out q hq
      case measure => simp [intOf]; omega
    · as_aux_lemma =>
      obtain rfl : t = N := by omega
      have tt : decide ((t : Int) < (t : Int)) = false := by simp
      have HROW := Lib.hid hrow
      have HQ := Lib.hid (And.intro hql (And.intro hqt hqo))
      have HBEL := Lib.hid hbel
      clear hrow hql hqt hqo hbel
      go_wp2_with fail
      go_ret
      exact ⟨u3, qs, rfl, HROW.out, HQ.out.1, by rw [HQ.out.2.1, CA.out], HQ.out.2.2, HBEL.out⟩
end Go.Proofs.YtihpjkidoingfaaDoor
