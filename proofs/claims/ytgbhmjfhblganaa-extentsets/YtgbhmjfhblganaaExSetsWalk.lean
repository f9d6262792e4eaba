/-
  The walk of the law ExtentSets. Condition: the slices hold their extents.
-/
import Derived.Test.YtgbhmjfhblganaaExLess
import Derived.Test.YtgbhmjfhblganaaExAwake
import Derived.Test.YtgbhmjfhblganaaExParts
import Derived.Test.YtgbhmjfhblganaaExRef
import Derived.Test.YtgbhmjfhblganaaExSet
namespace Go.Proofs.Ytgbhmjfhblganaa
open Go.RowKit Arr Ex
set_option linter.unusedSimpArgs false

/-- The law answers true, and what was there is as it was. -/
def TrueS (w : World) (e : Ending) (w' : World) : Prop := e = .returned (.bool true) ∧ Below w.heap.size w w'
/-- What lies in memory between the calls. -/
structure SetS (w wk : World) (A0 A1 : Option Addr) (a b : List (Int × Int)) (vx vy : Value) (x y : List (Int × Int)) : Prop where
  be : Below w.heap.size w wk
  ha : Exts wk wk.heap.size A0 a
  hb : Exts wk wk.heap.size A1 b
  ox : Own2 wk w.heap.size vx x
  oy : Own2 wk w.heap.size vy y
theorem SetS.put {w wk w' : World} {A0 A1 : Option Addr} {a b x y : List (Int × Int)} {vx vy : Value} (h : SetS w wk A0 A1 a b vx vy x y) (hb : Below wk.heap.size wk w') : SetS w w' A0 A1 a b vx vy x y :=
  ⟨h.be.trans (hb.mono h.be.size), h.ha.later hb, h.hb.later hb, h.ox.below hb, h.oy.below hb⟩
/-- .. and the two rows of numbers, and what is left. -/
structure SetT (w wk : World) (A0 A1 Ap Aq : Option Addr) (a b : List (Int × Int)) (vx vy : Value) (x y : List (Int × Int)) (p q : List Int) (vl : Value) (l : List Int) : Prop where
  s : SetS w wk A0 A1 a b vx vy x y
  ip : IntsI wk wk.heap.size Ap p
  iq : IntsI wk wk.heap.size Aq q
  ol : OwnI wk w.heap.size vl l
theorem SetT.put {w wk w' : World} {A0 A1 Ap Aq : Option Addr} {a b x y : List (Int × Int)} {vx vy vl : Value} {p q l : List Int} (h : SetT w wk A0 A1 Ap Aq a b vx vy x y p q vl l) (hb : Below wk.heap.size wk w') : SetT w w' A0 A1 Ap Aq a b vx vy x y p q vl l :=
  ⟨h.s.put hb, h.ip.later hb, h.iq.later hb, h.ol.below hb⟩
theorem pe2 (w : World) (A0 A1 : Option Addr) (n0 c0 n1 c1 : Nat) (a b : List (Int × Int)) (h0 : a.length = n0) (h1 : b.length = n1) :
    ∀ (i : Nat) (p : Pe), ([⟨A0, c0, a⟩, ⟨A1, c1, b⟩] : List Pe)[i]? = some p → (w.alloc (.cells #[.slice A0 n0 c0, .slice A1 n1 c1] 22)).cell? ⟨w.heap.size, i, none⟩ = some (.slice p.A p.l.length p.c) := fun i p h => by
  subst h0 h1
  rw [World.cell?_alloc_new]
  match i, h with
  | 0, h => simp only [List.getElem?_cons_zero, Option.some.injEq] at h; subst h; rfl
  | 1, h => simp only [List.getElem?_cons_succ, List.getElem?_cons_zero, Option.some.injEq] at h; subst h; rfl
  | i + 2, h => simp at h
theorem right_i64s {l : List (Int × Int)} (h : right l = true) : ∀ x, x ∈ l → I64 x := fun x hx => i64_may (((right_iff l).1 h).1 x hx)
/-- Apart; within; left. -/
def apS (p q : List Int) : Bool := q.all fun s => !decide (s ∈ p)
def wiS (p q : List Int) : Bool := q.all fun s => decide (s ∈ p)
def leS (p q : List Int) : List Int := p.filter fun s => !decide (s ∈ q)
theorem all_take {α : Type} (f : α → Bool) (l : List α) (k : Nat) {x : α} (h : l[k]? = some x) : (l.take (k + 1)).all f = ((l.take k).all f && f x) := by
  rw [List.take_add_one, h]; simp
theorem filter_take {α : Type} (f : α → Bool) (l : List α) (k : Nat) {x : α} (h : l[k]? = some x) : (l.take (k + 1)).filter f = if f x then (l.take k).filter f ++ [x] else (l.take k).filter f := by
  rw [List.take_add_one, h, List.filter_append]
  by_cases hf : f x <;> simp [hf]
theorem apS_joins {a b : List (Int × Int)} (ha : right a = true) (hb : right b = true) : apS (secs a) (secs b) = joins a b := by
  rw [Bool.eq_iff_iff, joins_iff ha hb]
  unfold apS
  rw [List.all_eq_true]
  constructor
  · intro h u hu hu'
    have := h u ((mem_secs u b).2 hu')
    simp only [Bool.not_eq_true', decide_eq_false_iff_not, mem_secs] at this
    exact this hu
  · intro h u hu
    simp only [Bool.not_eq_true', decide_eq_false_iff_not, mem_secs]
    exact fun hu' => h u hu' ((mem_secs u b).1 hu)
theorem wiS_less {a b : List (Int × Int)} (ha : right a = true) (hb : right b = true) : wiS (secs a) (secs b) = lessOk a b := by
  rw [Bool.eq_iff_iff, (less_spec ha hb).1]
  unfold wiS
  rw [List.all_eq_true]
  constructor
  · intro h u hu
    have := h u ((mem_secs u b).2 hu)
    simp only [decide_eq_true_eq, mem_secs] at this
    exact this
  · intro h u hu
    simp only [decide_eq_true_eq, mem_secs]
    exact h u ((mem_secs u b).1 hu)
theorem few_mem {a : List (Int × Int)} (h : FewE a) (hr : right a = true) {u : Int} (hu : Mem u a) : 0 ≤ u ∧ u < 200 := by
  obtain ⟨x, hx, q1, q2⟩ := hu
  have hm := ((right_iff a).1 hr).1 x hx
  have := h.2 x hx hm
  have := (may_iff x).1 hm
  omega
/-- The document's answers are the ones. -/
theorem join_set {a b x : List (Int × Int)} (fa : FewE a) (fb : FewE b) (ha : right a = true) (hb : right b = true) (hx : right x = true) (hm : ∀ u, Mem u x ↔ Mem u a ∨ Mem u b) : x = setL (secs a ++ secs b) 200 := by
  obtain ⟨g, m, _⟩ := setL_spec (secs a ++ secs b) 200 (by omega)
  refine right_ext' hx g.right fun u => ?_
  rw [hm, m, List.mem_append, mem_secs, mem_secs]
  constructor
  · rintro (h | h)
    · exact ⟨.inl h, (few_mem fa ha h).1, (few_mem fa ha h).2⟩
    · exact ⟨.inr h, (few_mem fb hb h).1, (few_mem fb hb h).2⟩
  · exact fun h => h.1
theorem less_set {a b y : List (Int × Int)} (fa : FewE a) (ha : right a = true) (hy : right y = true) (hm : ∀ u, Mem u y ↔ Mem u a ∧ ¬ Mem u b) : y = setL (leS (secs a) (secs b)) 200 := by
  obtain ⟨g, m, _⟩ := setL_spec (leS (secs a) (secs b)) 200 (by omega)
  refine right_ext' hy g.right fun u => ?_
  rw [hm, m]
  unfold leS
  rw [List.mem_filter, mem_secs]
  simp only [Bool.not_eq_true', decide_eq_false_iff_not, mem_secs]
  constructor
  · exact fun h => ⟨h, (few_mem fa ha h.1).1, (few_mem fa ha h.1).2⟩
  · exact fun h => h.1
theorem ownI_empty (w : World) : OwnI (w.alloc (.cells #[] 3)) w.heap.size (.slice (some ⟨w.heap.size, 0, none⟩) 0 0) [] :=
  ⟨rfl, .inr ⟨w.heap.size, 0, #[], rfl, Nat.le_refl _, heap_alloc_new w _, Nat.le_refl _, by unfold maxLen; omega, rfl, rfl⟩⟩
set_option maxRecDepth 100000 in
set_option maxHeartbeats 1500000 in
theorem sets_walk (w : World) (A0 : Option Addr) (n0 c0 : Nat) (a : List (Int × Int)) (h0 : a.length = n0) (_hc0 : n0 ≤ c0) (hA0 : A0 = none → c0 = 0) (hb0 : Exts w w.heap.size A0 a)
    (A1 : Option Addr) (n1 c1 : Nat) (b : List (Int × Int)) (h1 : b.length = n1) (hc1 : n1 ≤ c1) (hA1 : A1 = none → c1 = 0) (hb1 : Exts w w.heap.size A1 b) :
    Calls Try.prog 3 #[.slice A0 n0 c0, .slice A1 n1 c1] w (TrueS w) := by
  have HA := Lib.hid hb0
  have HB := Lib.hid hb1
  have HL := Lib.hid (And.intro h0 h1)
  have HN := Lib.hid (And.intro hA0 hA1)
  have HC := Lib.hid hc1
  clear hb0 hb1 h0 h1 _hc0 hc1 hA0 hA1
  have CA := Lib.hid (awake_any w)
  go_enter Try.func3, Try.ntmps3
  go_wp2_with fail
  refine CA.out.mono ?_
  rintro e w1 ⟨rfl, hb⟩
  have hal := below_alloc w1 (.cells #[.slice A0 n0 c0, .slice A1 n1 c1] 22)
  have HW2 := Lib.hid (hb.trans (hal.mono hb.size))
  have CF := Lib.hid (few_any (w1.alloc (.cells #[.slice A0 n0 c0, .slice A1 n1 c1] 22)) w1.heap.size 2 [⟨A0, c0, a⟩, ⟨A1, c1, b⟩] rfl (by omega) (by simp) (pe2 w1 A0 A1 n0 c0 n1 c1 a b HL.out.1 HL.out.2) (fun p hp => by
    simp only [List.mem_cons, List.not_mem_nil, or_false] at hp
    rcases hp with rfl | rfl
    · exact (HA.out.below HW2.out).more HW2.out.size
    · exact (HB.out.below HW2.out).more HW2.out.size))
  clear hb hal CA
  go_wp2_with fail
  refine CF.out.mono ?_
  rintro e w3 ⟨f, rfl, hf, hb3⟩
  have HW3 := Lib.hid (HW2.out.trans (hb3.mono HW2.out.size))
  clear hb3 CF
  cases f with
  | false =>
    clear hf
    go_wp2
    go_ret
    exact ⟨rfl, HW3.out⟩
  | true =>
    have hfew := hf.1 rfl
    have fa : FewE a := hfew _ (List.mem_cons_self ..)
    have fb : FewE b := hfew _ (List.mem_cons_of_mem _ (List.mem_cons_self ..))
    have hn0 : n0 ≤ 20 := by have := fa.1; have := HL.out.1; omega
    have hn1 : n1 ≤ 20 := by have := fb.1; have := HL.out.2; omega
    have HFW := Lib.hid (And.intro fa fb)
    clear hf hfew fa fb
    have C1 := Lib.hid (right_any w3 A0 c0 n0 a HL.out.1 ((HA.out.below HW3.out).more HW3.out.size) (by omega))
    go_wp2_with fail
    refine C1.out.mono ?_
    rintro e w4 ⟨rfl, hb4⟩
    have HW4 := Lib.hid (HW3.out.trans (hb4.mono HW3.out.size))
    have C2 := Lib.hid (rright_any w4 A0 c0 n0 a HL.out.1 ((HA.out.below HW4.out).more HW4.out.size) (by omega))
    clear hb4 C1
    go_wp2_with fail
    refine C2.out.mono ?_
    rintro e w5 ⟨rfl, hb5⟩
    have HW5 := Lib.hid (HW4.out.trans (hb5.mono HW4.out.size))
    have C3 := Lib.hid (chain_any w5 A0 n0 c0 a HL.out.1 HN.out.1 (by omega) ((HA.out.below HW5.out).more HW5.out.size))
    clear hb5 C2
    have u0 : decide (¬ right a = right a) = false := by simp
    have HRA := Lib.hid (show right a = right a from rfl)
    go_wp2_with fail
    refine C3.out.mono ?_
    rintro e w6 ⟨rfl, hb6⟩
    have HW6 := Lib.hid (HW5.out.trans (hb6.mono HW5.out.size))
    have C4 := Lib.hid (rchain_any w6 A0 c0 n0 a HL.out.1 ((HA.out.below HW6.out).more HW6.out.size) (by omega))
    clear hb6 C3
    have u1 : decide (¬ chain a = chain a) = false := by simp
    go_wp2_with fail
    refine C4.out.mono ?_
    rintro e w7 ⟨rfl, hb7⟩
    have HW7 := Lib.hid (HW6.out.trans (hb7.mono HW6.out.size))
    have C5 := Lib.hid (join_any w7 A0 A1 n0 c0 n1 c1 a b HL.out.1 HL.out.2 (by omega) (by omega) HN.out.1 HN.out.2 ((HA.out.below HW7.out).more HW7.out.size) ((HB.out.below HW7.out).more HW7.out.size))
    clear hb7 C4
    go_wp2_with fail
    refine C5.out.mono ?_
    rintro e w8 ⟨vx, x, rfl, hox, hb8, hjx, hjn, _⟩
    have HW8 := Lib.hid (HW7.out.trans (hb8.mono HW7.out.size))
    have HJX := Lib.hid (And.intro hjx hjn)
    have HOX := Lib.hid (hox.low (base' := w.heap.size) HW7.out.size)
    have C6 := Lib.hid (less_any w8 A0 A1 n0 c0 n1 c1 a b HL.out.1 HL.out.2 (by omega) (by omega) HC.out ((HA.out.below HW8.out).more HW8.out.size) ((HB.out.below HW8.out).more HW8.out.size))
    clear hox hb8 hjx hjn C5 u0 u1 HRA
    go_wp2_with fail
    refine C6.out.mono ?_
    rintro e w9 ⟨vy, y, rfl, hoy, hb9, hly, hln⟩
    have S9 := Lib.hid (show SetS w w9 A0 A1 a b vx vy x y from ⟨HW8.out.trans (hb9.mono HW8.out.size), (HA.out.below (HW8.out.trans (hb9.mono HW8.out.size))).more (Nat.le_trans HW8.out.size hb9.size), (HB.out.below (HW8.out.trans (hb9.mono HW8.out.size))).more (Nat.le_trans HW8.out.size hb9.size), HOX.out.below hb9, hoy.low HW8.out.size⟩)
    have HLY := Lib.hid (And.intro hly hln)
    have C7 := Lib.hid (rright_any w9 A0 c0 n0 a HL.out.1 S9.out.ha (by omega))
    clear hoy hb9 hly hln C6 HOX
    by_cases hra : right a = true
    · rw [hra] at C7
      go_wp2_with fail
      refine C7.out.mono ?_
      rintro e wa ⟨rfl, hba⟩
      have Sa := Lib.hid (S9.out.put hba)
      have C8 := Lib.hid (rright_any wa A1 c1 n1 b HL.out.2 Sa.out.hb (by omega))
      clear hba C7 S9
      by_cases hrb : right b = true
      · rw [hrb] at C8
        go_wp2_with fail
        refine C8.out.mono ?_
        rintro e wb ⟨rfl, hbb⟩
        have Sb := Lib.hid (Sa.out.put hbb)
        have HR := Lib.hid (And.intro hra hrb)
        have HMA := Lib.hid ((right_iff a).1 hra).1
        have HMB := Lib.hid ((right_iff b).1 hrb).1
        have C9 := Lib.hid (rsectors_any wb A0 n0 c0 a HL.out.1 (by omega) HMA.out (by have := fewE_total HFW.out.1 HMA.out; omega) Sb.out.ha)
        clear hbb C8 Sa hra hrb
        go_wp2_with fail
        refine C9.out.mono ?_
        rintro e wc ⟨vp, rfl, hop, hbc⟩
        have Sc := Lib.hid (Sb.out.put hbc)
        obtain ⟨Ap, cp, rfl, hcp, hnp, hip⟩ := hop.shape
        have IP := Lib.hid (hip (secs_z64 HMA.out))
        have C10 := Lib.hid (rsectors_any wc A1 n1 c1 b HL.out.2 (by omega) HMB.out (by have := fewE_total HFW.out.2 HMB.out; omega) Sc.out.hb)
        clear hop hip hbc C9 Sb
        go_wp2_with fail
        refine C10.out.mono ?_
        rintro e wd ⟨vq, rfl, hoq, hbd⟩
        have Sd := Lib.hid (Sc.out.put hbd)
        obtain ⟨Aq, cq, rfl, hcq, hnq, hiq⟩ := hoq.shape
        have IQ := Lib.hid (hiq (secs_z64 HMB.out))
        have IPd := Lib.hid (IP.out.later hbd)
        have tp := total_secs a (fun x hx => by have := (may_iff x).1 (HMA.out x hx); omega)
        have tq := total_secs b (fun x hx => by have := (may_iff x).1 (HMB.out x hx); omega)
        have tp4 := fewE_total HFW.out.1 HMA.out
        have tq4 := fewE_total HFW.out.2 HMB.out
        have hp4 : (secs a).length ≤ 4000 := by omega
        have hq4 : (secs b).length ≤ 4000 := by omega
        have EJ := Lib.hid (apS_joins HR.out.1 HR.out.2)
        have EL := Lib.hid (wiS_less HR.out.1 HR.out.2)
        have FJ := Lib.hid (show joins a b = true → x = setL (secs a ++ secs b) 200 from fun h => by
          obtain ⟨r, m, _⟩ := HJX.out.1 h
          exact join_set HFW.out.1 HFW.out.2 HR.out.1 HR.out.2 r m)
        have FL := Lib.hid (show lessOk a b = true → y = setL (leS (secs a) (secs b)) 200 from fun h => by
          obtain rfl := HLY.out.1 h
          obtain ⟨r, m⟩ := (less_spec HR.out.1 HR.out.2).2 h
          exact less_set HFW.out.1 HR.out.1 r m)
        have ZP := Lib.hid (secs_z64 HMA.out)
        have ZQ := Lib.hid (secs_z64 HMB.out)
        clear hoq hiq hbd C10 Sc IP tp tq tp4 tq4
        generalize secs a = p at *
        generalize secs b = q at *
        have HLP := Lib.hid (show p.length = p.length from rfl)
        have HLQ := Lib.hid (show q.length = q.length from rfl)
        generalize hlp : p.length = np at *
        generalize hlq : q.length = nq at *
        have LP := Lib.hid hlp
        have LQ := Lib.hid hlq
        have CP := Lib.hid (And.intro hcp hnp)
        have CQ := Lib.hid (And.intro hcq hnq)
        clear hlp hlq HLP HLQ hcp hcq hnp hnq
        go_wp2
        go_loopw [11, 12, 77] (fun va vw i wr => ∃ (k : Nat) (ap wi : Bool), k ≤ nq ∧ i = .int .i64 k ∧ va = .bool ap ∧ vw = .bool wi ∧ ap = apS p (q.take k) ∧ wi = wiS p (q.take k) ∧ wr = wd) (fun _ _ i _ => nq - (intOf i).toNat)
        case atStart => exact ⟨0, true, true, Nat.zero_le _, rfl, rfl, rfl, rfl, rfl, rfl⟩
        case round =>
          obtain ⟨k, ap, wi, hk, rfl, rfl, rfl, hap, hwi, rfl⟩ := hrel
          by_cases hlt : k < nq
          · have hki : k < q.length := by rw [LQ.out]; exact hlt
            obtain ⟨bq, oq, rfl, _, hcell⟩ := IQ.out.2 (by omega)
            have q0 := hcell k hki
            have hget : q[k]? = some (q.getD k 0) := by rw [List.getElem?_eq_getElem hki]; simp [hki]
            have sa := all_take (fun s => !decide (s ∈ p)) q k hget
            have sw := all_take (fun s => decide (s ∈ p)) q k hget
            have HSA := Lib.hid (show apS p (q.take (k + 1)) = (ap && !decide (q.getD k 0 ∈ p)) by rw [hap]; exact sa)
            have HSW := Lib.hid (show wiS p (q.take (k + 1)) = (wi && decide (q.getD k 0 ∈ p)) by rw [hwi]; exact sw)
            have CI := Lib.hid (rin_any wr Ap np cp _ p LP.out (by omega) IPd.out (q.getD k 0))
            have t1 : decide ((k : Int) < (nq : Int)) = true := by simp; omega
            have wk : IntKind.i64.wrap ((k : Int) + 1) = (k : Int) + 1 := by rw [IntKind.wrap_i64]; omega
            clear hcell hget sa sw hap hwi
            generalize q.getD k 0 = z at *
            generalize decide (z ∈ p) = bb at *
            cases ap with
            | true =>
              cases wi with
              | true =>
                go_wp2_with fail
                refine CI.out.mono ?_
                rintro e w' ⟨rfl, rfl⟩
                go_wp2_with fail
                refine CI.out.mono ?_
                rintro e w'' ⟨rfl, rfl⟩
                go_wp2
                go_roundw
                case rel => exact ⟨k + 1, !bb, bb, by omega, by go_num, rfl, rfl, by rw [HSA.out]; rfl, by rw [HSW.out]; rfl, trivial⟩
                case measure => simp [intOf]; omega
              | false =>
                go_wp2_with fail
                refine CI.out.mono ?_
                rintro e w' ⟨rfl, rfl⟩
                go_wp2
                go_roundw
                case rel => exact ⟨k + 1, !bb, false, by omega, by go_num, rfl, rfl, by rw [HSA.out]; rfl, by rw [HSW.out]; rfl, trivial⟩
                case measure => simp [intOf]; omega
            | false =>
              cases wi with
              | true =>
                go_wp2_with fail
                refine CI.out.mono ?_
                rintro e w' ⟨rfl, rfl⟩
                go_wp2
                go_roundw
                case rel => exact ⟨k + 1, false, bb, by omega, by go_num, rfl, rfl, by rw [HSA.out]; rfl, by rw [HSW.out]; rfl, trivial⟩
                case measure => simp [intOf]; omega
              | false =>
                go_wp2
                go_roundw
                case rel => exact ⟨k + 1, false, false, by omega, by go_num, rfl, rfl, by rw [HSA.out]; rfl, by rw [HSW.out]; rfl, trivial⟩
                case measure => simp [intOf]; omega
          · have t1 : decide ((k : Int) < (nq : Int)) = false := by simp; omega
            have hfull : q.take k = q := List.take_of_length_le (by rw [LQ.out]; omega)
            rw [hfull, EJ.out] at hap
            rw [hfull, EL.out] at hwi
            subst hap hwi
            clear hfull
            go_wp2
            -- end part
            go_loopw [13, 97] (fun v i wr2 => ∃ (k : Nat) (V : Value) (Ws : World), Ws = wr2 ∧ V = v ∧ k ≤ np ∧ i = .int .i64 k ∧ OwnI wr2 wr.heap.size V ((p.take k).filter fun s => !decide (s ∈ q)) ∧ Below wr.heap.size wr wr2) (fun _ i _ => np - (intOf i).toNat)
            case atStart => exact ⟨0, _, _, rfl, rfl, Nat.zero_le _, rfl, ownI_nil _ _, Below.refl _ _⟩
            case round =>
              obtain ⟨k, V, wk, rfl, rfl, hk, rfl, hol, hbl⟩ := hrel
              have OL := Lib.hid hol
              have BL := Lib.hid hbl
              by_cases hlt : k < np
              · have hki : k < p.length := by rw [LP.out]; exact hlt
                obtain ⟨bp, op, rfl, _, hcell⟩ := (IPd.out.below hbl).2 (by omega)
                have q0 := hcell k hki
                have hget : p[k]? = some (p.getD k 0) := by rw [List.getElem?_eq_getElem hki]; simp [hki]
                have HFT := Lib.hid (filter_take (fun s => !decide (s ∈ q)) p k hget)
                have HZ := Lib.hid (ZP.out (p.getD k 0) (by simp [hki]))
                have CI := Lib.hid (rin_any wk Aq nq cq _ q LQ.out (by omega) (IQ.out.below hbl) (p.getD k 0))
                have t1 : decide ((k : Int) < (np : Int)) = true := by simp; omega
                have wk' : IntKind.i64.wrap ((k : Int) + 1) = (k : Int) + 1 := by rw [IntKind.wrap_i64]; omega
                have HLE := Lib.hid (show ((p.take k).filter fun s => !decide (s ∈ q)).length ≤ np from Nat.le_trans (List.length_filter_le _ _) (by rw [List.length_take]; omega))
                clear hcell hget hol hbl
                generalize p.getD k 0 = z at *
                by_cases hin : z ∈ q
                · rw [show decide (z ∈ q) = true by simpa using hin] at CI
                  have HST := Lib.hid (show ((p.take (k + 1)).filter fun s => !decide (s ∈ q)) = ((p.take k).filter fun s => !decide (s ∈ q)) by rw [HFT.out]; simp [hin])
                  clear hin HFT
                  go_wp2_with fail
                  refine CI.out.mono ?_
                  rintro e w' ⟨rfl, rfl⟩
                  go_wp2
                  go_roundw
                  case rel => exact ⟨k + 1, _, _, rfl, rfl, by omega, by go_num, by rw [HST.out]; exact OL.out, BL.out⟩
                  case measure => simp [intOf]; omega
                · rw [show decide (z ∈ q) = false by simpa using hin] at CI
                  have HST := Lib.hid (show ((p.take (k + 1)).filter fun s => !decide (s ∈ q)) = ((p.take k).filter fun s => !decide (s ∈ q)) ++ [z] by rw [HFT.out]; simp [hin])
                  clear hin HFT
                  go_wp2_with fail
                  refine CI.out.mono ?_
                  rintro e w' ⟨rfl, rfl⟩
                  have HX := Lib.hid (ints_lit w' z HZ.out)
                  have OA := Lib.hid (OL.out.alloc (.cells #[.int .i64 z] 3))
                  have BA := Lib.hid (BL.out.alloc BL.out.size (.cells #[.int .i64 z] 3))
                  go_wp2_with (at_builtin; refine append_ints rfl (.tmp 105) (.tmp 107) rfl wr.heap.size _ _ rfl OA.out (some ⟨w'.heap.size, 0, none⟩) 1 1 [z] rfl (fun h => by cases h) rfl (by simpa using HX.out) (by have := HLE.out; omega) BA.out.size ?_; intro v' w7 hown' hbel')
                  rw [← HST.out] at hown'
                  go_roundw
                  case rel => exact ⟨k + 1, _, _, rfl, rfl, by omega, by go_num, hown', BA.out.trans hbel'⟩
                  case measure => simp [intOf]; omega
              · have t1 : decide ((k : Int) < (np : Int)) = false := by simp; omega
                have hfull : p.take k = p := List.take_of_length_le (by rw [LP.out]; omega)
                rw [hfull] at hol
                have T := Lib.hid (show SetT w wk A0 A1 Ap Aq a b vx vy x y p q V (leS p q) from ⟨Sd.out.put hbl, IPd.out.later hbl, IQ.out.later hbl, hol.low Sd.out.be.size⟩)
                clear hol hbl hfull OL BL
                generalize hjb : joins a b = jb at *
                generalize hlb : lessOk a b = lb at *
                clear hjb hlb EJ EL
                cases jb with
                | true =>
                  cases lb with
                  | true =>
                    obtain rfl := FL.out rfl
                    obtain rfl := FJ.out rfl
                    obtain ⟨Ax, cx, rfl, _, _, _, hxx⟩ := T.out.s.ox.shape
                    have XI := Lib.hid (hxx (right_i64s ((setL_spec (p ++ q) 200 (by omega)).1.right)))
                    have LX := Lib.hid ((setL_spec (p ++ q) 200 (by omega)).2.2)
                    have hal := below_alloc wk (.cells #[] 3)
                    have OE := Lib.hid (ownI_empty wk)
                    have HAL := Lib.hid hal
                    have HBE := Lib.hid hal.size
                    clear hxx hal
                    go_wp2_with (first | (at_builtin; refine append_ints rfl (.tmp 117) (.tmp 118) rfl wk.heap.size (.slice (some ⟨wk.heap.size, 0, none⟩) 0 0) [] rfl OE.out Ap np cp p rfl CP.out.2 LP.out (T.out.ip.later HAL.out) (by simp; omega) HBE.out ?_; intro va wa1 hoa hba) | (at_builtin; refine append_ints rfl (.tmp 119) (.tmp 120) rfl wk.heap.size va p rfl hoa Aq nq cq q rfl CQ.out.2 LQ.out (T.out.iq.later (HAL.out.trans hba)) (by have := LP.out; omega) (HAL.out.trans hba).size ?_; intro vb wb1 hob hbb))
                    have HB2 := Lib.hid ((HAL.out.trans hba).trans hbb)
                    obtain ⟨Ab, cb, rfl, _, _, hib⟩ := hob.shape
                    have IB := Lib.hid (hib (fun z hz => (List.mem_append.1 hz).elim (ZP.out z) (ZQ.out z)))
                    have T2 := Lib.hid (T.out.put HB2.out)
                    have XI2 := Lib.hid (XI.out.later HB2.out)
                    have CS0 := Lib.hid (rset_any wb1 Ab (p ++ q).length cb (p ++ q) rfl (by have := LP.out; have := LQ.out; rw [List.length_append]; omega) IB.out 200 (by omega))
                    rw [show ((200 : Nat) : Int) = 200 from rfl] at CS0
                    clear hoa hba hob hbb hib T XI HAL HB2 OE
                    go_wp2_with fail
                    refine CS0.out.mono ?_
                    rintro e wy0 ⟨vs0, rfl, hos, hbs⟩
                    obtain ⟨As0, cs0, rfl, _, _, _, hxs⟩ := hos.shape
                    have XS0 := Lib.hid (hxs (right_i64s ((setL_spec (p ++ q) 200 (by omega)).1.right)))
                    have T3 := Lib.hid (T2.out.put hbs)
                    have CM0 := Lib.hid (same_any wy0 Ax As0 (setL (p ++ q) 200).length cx (setL (p ++ q) 200).length cs0 (setL (p ++ q) 200) (setL (p ++ q) 200) rfl rfl (by have := LX.out; omega) _ _ (XI2.out.below hbs) XS0.out)
                    rw [show decide (setL (p ++ q) 200 = setL (p ++ q) 200) = true from by simp] at CM0
                    clear hos hbs hxs CS0 T2 XI2
                    go_wp2_with fail
                    refine CM0.out.mono ?_
                    rintro e wx0 ⟨rfl, qm0, rfl⟩
                    have T := Lib.hid (T3.out.put (below_drewN_self wy0 qm0))
                    clear T3 CM0 XS0
                    generalize wy0.drewN qm0 = wz at *

                    obtain ⟨Ay, cy, rfl, _, _, _, hxy⟩ := T.out.s.oy.shape
                    obtain ⟨Al, cl, rfl, _, _, hil⟩ := T.out.ol.shape
                    have YI := Lib.hid (hxy (right_i64s ((setL_spec (leS p q) 200 (by omega)).1.right)))
                    have LI := Lib.hid (hil (fun z hz => ZP.out z ((List.mem_filter.1 hz).1)))
                    have LY := Lib.hid ((setL_spec (leS p q) 200 (by omega)).2.2)
                    have CS := Lib.hid (rset_any _ Al (leS p q).length cl (leS p q) rfl (by have := List.length_filter_le (fun s => !decide (s ∈ q)) p; have := LP.out; unfold leS; omega) LI.out 200 (by omega))
                    rw [show ((200 : Nat) : Int) = 200 from rfl] at CS
                    clear hxy hil
                    go_wp2_with fail
                    refine CS.out.mono ?_
                    rintro e wy ⟨vs, rfl, hos, hbs⟩
                    obtain ⟨As, cs, rfl, _, _, _, hxs⟩ := hos.shape
                    have XS := Lib.hid (hxs (right_i64s ((setL_spec (leS p q) 200 (by omega)).1.right)))
                    have Ty := Lib.hid (T.out.put hbs)
                    have CM := Lib.hid (same_any wy Ay As (setL (leS p q) 200).length cy (setL (leS p q) 200).length cs (setL (leS p q) 200) (setL (leS p q) 200) rfl rfl (by have := LY.out; omega) _ _ (YI.out.below hbs) XS.out)
                    rw [show decide (setL (leS p q) 200 = setL (leS p q) 200) = true from by simp] at CM
                    clear hos hbs hxs CS T
                    go_wp2_with fail
                    refine CM.out.mono ?_
                    rintro e wx ⟨rfl, qm, rfl⟩
                    have HF := Lib.hid (below_drewN Ty.out.s.be qm)
                    go_wp2
                    go_ret
                    exact ⟨rfl, HF.out⟩
                  | false =>
                    obtain rfl := HLY.out.2 rfl
                    obtain rfl := FJ.out rfl
                    obtain ⟨Ax, cx, rfl, _, _, _, hxx⟩ := T.out.s.ox.shape
                    have XI := Lib.hid (hxx (right_i64s ((setL_spec (p ++ q) 200 (by omega)).1.right)))
                    have LX := Lib.hid ((setL_spec (p ++ q) 200 (by omega)).2.2)
                    have hal := below_alloc wk (.cells #[] 3)
                    have OE := Lib.hid (ownI_empty wk)
                    have HAL := Lib.hid hal
                    have HBE := Lib.hid hal.size
                    clear hxx hal
                    go_wp2_with (first | (at_builtin; refine append_ints rfl (.tmp 117) (.tmp 118) rfl wk.heap.size (.slice (some ⟨wk.heap.size, 0, none⟩) 0 0) [] rfl OE.out Ap np cp p rfl CP.out.2 LP.out (T.out.ip.later HAL.out) (by simp; omega) HBE.out ?_; intro va wa1 hoa hba) | (at_builtin; refine append_ints rfl (.tmp 119) (.tmp 120) rfl wk.heap.size va p rfl hoa Aq nq cq q rfl CQ.out.2 LQ.out (T.out.iq.later (HAL.out.trans hba)) (by have := LP.out; omega) (HAL.out.trans hba).size ?_; intro vb wb1 hob hbb))
                    have HB2 := Lib.hid ((HAL.out.trans hba).trans hbb)
                    obtain ⟨Ab, cb, rfl, _, _, hib⟩ := hob.shape
                    have IB := Lib.hid (hib (fun z hz => (List.mem_append.1 hz).elim (ZP.out z) (ZQ.out z)))
                    have T2 := Lib.hid (T.out.put HB2.out)
                    have XI2 := Lib.hid (XI.out.later HB2.out)
                    have CS0 := Lib.hid (rset_any wb1 Ab (p ++ q).length cb (p ++ q) rfl (by have := LP.out; have := LQ.out; rw [List.length_append]; omega) IB.out 200 (by omega))
                    rw [show ((200 : Nat) : Int) = 200 from rfl] at CS0
                    clear hoa hba hob hbb hib T XI HAL HB2 OE
                    go_wp2_with fail
                    refine CS0.out.mono ?_
                    rintro e wy0 ⟨vs0, rfl, hos, hbs⟩
                    obtain ⟨As0, cs0, rfl, _, _, _, hxs⟩ := hos.shape
                    have XS0 := Lib.hid (hxs (right_i64s ((setL_spec (p ++ q) 200 (by omega)).1.right)))
                    have T3 := Lib.hid (T2.out.put hbs)
                    have CM0 := Lib.hid (same_any wy0 Ax As0 (setL (p ++ q) 200).length cx (setL (p ++ q) 200).length cs0 (setL (p ++ q) 200) (setL (p ++ q) 200) rfl rfl (by have := LX.out; omega) _ _ (XI2.out.below hbs) XS0.out)
                    rw [show decide (setL (p ++ q) 200 = setL (p ++ q) 200) = true from by simp] at CM0
                    clear hos hbs hxs CS0 T2 XI2
                    go_wp2_with fail
                    refine CM0.out.mono ?_
                    rintro e wx0 ⟨rfl, qm0, rfl⟩
                    have T := Lib.hid (T3.out.put (below_drewN_self wy0 qm0))
                    clear T3 CM0 XS0
                    generalize wy0.drewN qm0 = wz at *

                    obtain ⟨Ay, cy, rfl, _⟩ := T.out.s.oy.shape
                    have e0 : ([] : List (Int × Int)).length = 0 := rfl
                    rw [e0]
                    go_wp2
                    go_ret
                    exact ⟨rfl, T.out.s.be⟩
                | false =>
                  cases lb with
                  | true =>
                    obtain rfl := FL.out rfl
                    obtain rfl := HJX.out.2 rfl
                    obtain ⟨Ax, cx, rfl, _⟩ := T.out.s.ox.shape
                    have e0' : ([] : List (Int × Int)).length = 0 := rfl
                    have u0 : decide (((0 : Nat) : Int) > 0) = false := by simp
                    rw [e0']

                    obtain ⟨Ay, cy, rfl, _, _, _, hxy⟩ := T.out.s.oy.shape
                    obtain ⟨Al, cl, rfl, _, _, hil⟩ := T.out.ol.shape
                    have YI := Lib.hid (hxy (right_i64s ((setL_spec (leS p q) 200 (by omega)).1.right)))
                    have LI := Lib.hid (hil (fun z hz => ZP.out z ((List.mem_filter.1 hz).1)))
                    have LY := Lib.hid ((setL_spec (leS p q) 200 (by omega)).2.2)
                    have CS := Lib.hid (rset_any _ Al (leS p q).length cl (leS p q) rfl (by have := List.length_filter_le (fun s => !decide (s ∈ q)) p; have := LP.out; unfold leS; omega) LI.out 200 (by omega))
                    rw [show ((200 : Nat) : Int) = 200 from rfl] at CS
                    clear hxy hil
                    go_wp2_with fail
                    refine CS.out.mono ?_
                    rintro e wy ⟨vs, rfl, hos, hbs⟩
                    obtain ⟨As, cs, rfl, _, _, _, hxs⟩ := hos.shape
                    have XS := Lib.hid (hxs (right_i64s ((setL_spec (leS p q) 200 (by omega)).1.right)))
                    have Ty := Lib.hid (T.out.put hbs)
                    have CM := Lib.hid (same_any wy Ay As (setL (leS p q) 200).length cy (setL (leS p q) 200).length cs (setL (leS p q) 200) (setL (leS p q) 200) rfl rfl (by have := LY.out; omega) _ _ (YI.out.below hbs) XS.out)
                    rw [show decide (setL (leS p q) 200 = setL (leS p q) 200) = true from by simp] at CM
                    clear hos hbs hxs CS T
                    go_wp2_with fail
                    refine CM.out.mono ?_
                    rintro e wx ⟨rfl, qm, rfl⟩
                    have HF := Lib.hid (below_drewN Ty.out.s.be qm)
                    go_wp2
                    go_ret
                    exact ⟨rfl, HF.out⟩
                  | false =>
                    obtain rfl := HLY.out.2 rfl
                    obtain rfl := HJX.out.2 rfl
                    obtain ⟨Ax, cx, rfl, _⟩ := T.out.s.ox.shape
                    have e0' : ([] : List (Int × Int)).length = 0 := rfl
                    have u0 : decide (((0 : Nat) : Int) > 0) = false := by simp
                    rw [e0']

                    obtain ⟨Ay, cy, rfl, _⟩ := T.out.s.oy.shape
                    have e0 : ([] : List (Int × Int)).length = 0 := rfl
                    rw [e0]
                    go_wp2
                    go_ret
                    exact ⟨rfl, T.out.s.be⟩
            -- end of end part
      · rw [Bool.not_eq_true] at hrb
        rw [hrb] at C8
        have j0 : joins a b = false := by unfold joins; rw [hrb]; simp
        have l0 : lessOk a b = false := by unfold lessOk; rw [hrb]; simp
        obtain rfl := HJX.out.2 j0
        obtain rfl := HLY.out.2 l0
        obtain ⟨Ax, cx, rfl, _⟩ := Sa.out.ox.shape
        obtain ⟨Ay, cy, rfl, _⟩ := Sa.out.oy.shape
        have e0 : ([] : List (Int × Int)).length = 0 := rfl
        rw [j0, l0, e0]
        clear j0 l0 hrb hra
        go_wp2_with fail
        refine C8.out.mono ?_
        rintro e wb ⟨rfl, hbb⟩
        have Sb := Lib.hid (Sa.out.put hbb)
        clear hbb
        go_wp2
        go_ret
        exact ⟨rfl, Sb.out.be⟩
    · rw [Bool.not_eq_true] at hra
      rw [hra] at C7
      have j0 : joins a b = false := by unfold joins; rw [hra]; rfl
      have l0 : lessOk a b = false := by unfold lessOk; rw [hra]; rfl
      obtain rfl := HJX.out.2 j0
      obtain rfl := HLY.out.2 l0
      obtain ⟨Ax, cx, rfl, _⟩ := S9.out.ox.shape
      obtain ⟨Ay, cy, rfl, _⟩ := S9.out.oy.shape
      have e0 : ([] : List (Int × Int)).length = 0 := rfl
      rw [j0, l0, e0]
      clear j0 l0 hra
      go_wp2_with fail
      refine C7.out.mono ?_
      rintro e wa ⟨rfl, hba⟩
      have Sa := Lib.hid (S9.out.put hba)
      clear hba
      go_wp2
      go_ret
      exact ⟨rfl, Sa.out.be⟩
end Go.Proofs.Ytgbhmjfhblganaa
