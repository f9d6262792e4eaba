/-
  Contracts of the disk's last and Read: what a sector had last. Conditions: the disk lies in memory as its methods leave it (or is none); its steps are fewer than 2^32.
-/
import Derived.Test.YtfjaiolgbcindaaDkBack
import Derived.Test.YtfjaiolgbcindaaClone
namespace Go.Proofs.Ytfjaiolgbcindaa
open Go.RowKit Go.Shelf Arr Dsk
attribute [local go_sem] Oper.semAt_some

theorem lastOf_none (i : Nat) : ∀ (ws : List (Nat × List Nat)) (b : List Nat), (∀ p, p ∈ ws → p.1 ≠ i) → lastOf ws i b = b
  | [], _, _ => rfl
  | p :: ws, b, h => by
    show lastOf ws i (if p.1 = i then p.2 else b) = b
    rw [if_neg (h p List.mem_cons_self)]
    exact lastOf_none i ws b (fun q hq => h q (List.mem_cons_of_mem _ hq))
theorem lastOf_append (i : Nat) (ws us : List (Nat × List Nat)) (b : List Nat) : lastOf (ws ++ us) i b = lastOf us i (lastOf ws i b) := by simp [lastOf]
theorem lastOf_at (i k : Nat) (ws : List (Nat × List Nat)) (b : List Nat) (hk : k < ws.length) (h1 : ws[k].1 = i) (h2 : ∀ j (h : j < ws.length), k < j → ws[j].1 ≠ i) : lastOf ws i b = ws[k].2 := by
  have e : ws.take k ++ (ws[k] :: ws.drop (k + 1)) = ws := by rw [← List.drop_eq_getElem_cons hk, List.take_append_drop]
  have e2 : lastOf (ws.take k ++ (ws[k] :: ws.drop (k + 1))) i b = ws[k].2 := by
    rw [lastOf_append]
    show lastOf (ws.drop (k + 1)) i (if ws[k].1 = i then ws[k].2 else _) = _
    rw [if_pos h1, lastOf_none i _ _ (fun p hp => ?_)]
    obtain ⟨j, hj, rfl⟩ := List.getElem_of_mem hp
    rw [List.getElem_drop]
    exact h2 _ (by rw [List.length_drop] at hj; omega) (by omega)
  rwa [e] at e2
theorem own_ne {ws : List Wt} {i : Nat} (h : ∀ p, p ∈ upto (nth ws) ws.length → p.2.i ≠ i) : ∀ p, p ∈ ws.map Wt.pr → p.1 ≠ i := fun p hp => by
  obtain ⟨x, hx, rfl⟩ := List.mem_map.1 hp
  obtain ⟨j, hj, rfl⟩ := List.getElem_of_mem hx
  have := h (nth ws (ws.length - 1 - j)) (by simp only [upto, List.mem_map, List.mem_range]; exact ⟨_, by omega, rfl⟩)
  unfold nth at this
  rw [show ws.length - 1 - (ws.length - 1 - j) = j by omega, List.getD_eq_getElem?_getD, List.getElem?_eq_getElem hj] at this
  exact this
/-- Where what was found lies in the list. -/
theorem found {ws : List Wt} {i k : Nat} {ini : List (Nat × Wt)} {x : Nat × Wt} (hk : k ≤ ws.length) (he : upto (nth ws) k = ini ++ [x]) (hn : ∀ p, p ∈ ini → p.2.i ≠ i) (hx : x.2.i = i) (b : List Nat) :
    x.2 ∈ ws ∧ lastOf (ws.map Wt.pr) i b = x.2.bs := by
  obtain ⟨m, rfl⟩ : ∃ m, k = m + 1 := by
    cases k with
    | zero => simp [upto] at he
    | succ m => exact ⟨m, rfl⟩
  rw [upto_succ] at he
  obtain ⟨rfl, e5⟩ := List.append_inj' he rfl
  obtain rfl : nth ws m = x := by simpa using e5
  have hj : ws.length - 1 - m < ws.length := by omega
  have ex : (nth ws m).2 = ws[ws.length - 1 - m] := by unfold nth; rw [List.getD_eq_getElem?_getD, List.getElem?_eq_getElem hj]; rfl
  rw [ex] at hx
  rw [ex]
  refine ⟨List.getElem_mem hj, ?_⟩
  rw [lastOf_at i (ws.length - 1 - m) (ws.map Wt.pr) b (by rw [List.length_map]; exact hj) (by rw [List.getElem_map]; exact hx) (fun j hjl hlt => ?_), List.getElem_map]
  · rfl
  · rw [List.length_map] at hjl
    rw [List.getElem_map]
    have := hn (nth ws (ws.length - 1 - j)) (by simp only [upto, List.mem_map, List.mem_range]; exact ⟨_, by omega, rfl⟩)
    unfold nth at this
    rw [show ws.length - 1 - (ws.length - 1 - j) = j by omega, List.getD_eq_getElem?_getD, List.getElem?_eq_getElem hjl] at this
    exact this

/-- Block B is a write's box. -/
def Box2 (W : World) (B : Nat) (x : Wt) : Prop := W.heap[B]? = some (.cells #[.int .i64 (x.i : Int), .slice x.A x.bs.length x.c] 66 (0, 0))
theorem Box2.cells {W : World} {B : Nat} {x : Wt} (h : Box2 W B x) : W.cell? ⟨B, 0, none⟩ = some (.int .i64 (x.i : Int)) ∧ W.cell? ⟨B, 1, none⟩ = some (.slice x.A x.bs.length x.c) := by
  constructor <;> simp [World.cell?, show W.heap[B]? = _ from h]

/-- What last leaves. -/
def LastP (b : List Nat) (w : World) (en : Ending) (w' : World) : Prop := ∃ A c, en = .returned (.slice A b.length c) ∧ b.length ≤ c ∧ Bys w w.heap.size A b ∧ Below w.heap.size w w'
set_option maxRecDepth 100000 in
set_option maxHeartbeats 4000000 in
theorem last_any {w : World} {g : Nat} {κ : Nat → Nat} {s : St} (h : Dsk w g κ s) (i : Nat) (hi : i < s.n) (hm : s.waits.length ≤ 4294967296) :
    Calls Try.prog 34 #[.pointer (some ⟨g, 0, none⟩), .int .i64 (i : Int)] w (LastP (s.last i) w) := by
  have hwf := h.wf
  have HAT := Lib.hid (fun (w' : World) (hB : Below w.heap.size w w') => h.below hB)
  obtain ⟨kb, kc, v, ws, A5, c5, h⟩ := h
  obtain ⟨A2, cc, rfl, hcc⟩ := row_form h.row
  obtain ⟨N, hN⟩ : ∃ N, N = ws.length := ⟨_, rfl⟩
  have HN := Lib.hid hN
  have hgl := h.gl
  have c2 := h.c2
  rw [← hN] at c2 hcc
  have hm' : N ≤ 4294967296 := by rw [hN]; rw [← h.wsE, List.length_map] at hm; exact hm
  have HWT := Lib.hid (show Wts w.heap.size w A2 ws from fun hl => by
    obtain ⟨b, o, e, _, q0, _⟩ := row_at h.row rfl 0 hl
    refine ⟨b, o, e, ?_, fun k hk => ?_⟩
    · exact lt_of_cell q0
    · obtain ⟨b', o', e', _, q0', q1'⟩ := row_at h.row rfl k hk
      rw [e] at e'
      simp only [Option.some.injEq, Addr.mk.injEq] at e'
      obtain ⟨rfl, rfl, _⟩ := e'
      exact ⟨q0', q1'⟩)
  have HSTAY := Lib.hid (show ∀ (W : World), Below w.heap.size w W → Calls Try.prog 37 #[.pointer (some ⟨g, 0, none⟩), .int .i64 (i : Int)] W fun en w' => en = .returned (.slice (some ⟨kb, i * s.sz, none⟩) s.sz (kc - i * s.sz)) ∧ ∃ n, w' = W.drewN n from
    fun W hB => at_any (h.touch (F := fun _ => False) (Touch.of _ hB) (fun _ _ h => h)) i hi)
  have HSOME := Lib.hid (show ∀ x, x ∈ ws → lastOf s.waits i (s.kept.getD i []) = x.bs → ∀ W', Below w.heap.size w W' → LastP (s.last i) w (.returned (.slice x.A x.bs.length x.c)) W' from fun x hx hl W' hB => by
    have hb := h.wsB x hx
    refine ⟨x.A, x.c, ?_, ?_, ?_, hB⟩
    · show _ = Ending.returned (.slice x.A (lastOf s.waits i (s.kept.getD i [])).length x.c)
      rw [hl]
    · show (lastOf s.waits i (s.kept.getD i [])).length ≤ _
      rw [hl]; exact hb.1
    · show Bys w w.heap.size x.A (lastOf s.waits i (s.kept.getD i []))
      rw [hl]; exact hb.2.2.bys)
  have HNONE := Lib.hid (show lastOf s.waits i (s.kept.getD i []) = s.kept.getD i [] → ∀ W', Below w.heap.size w W' → LastP (s.last i) w (.returned (.slice (some ⟨kb, i * s.sz, none⟩) s.sz (kc - i * s.sz))) W' from fun hl W' hB => by
    have kl := hwf.kl
    have kz : ∀ c, c ∈ s.kept → c.length = s.sz := fun c hc => (hwf.kb c hc).1
    have fl := flat_len s.kept kz
    have hmem : s.kept.getD i [] ∈ s.kept := by
      rw [List.getD_eq_getElem?_getD, List.getElem?_eq_getElem (by omega)]; exact List.getElem_mem _
    have hbl := hwf.kb _ hmem
    have e1 : i * s.sz + s.sz ≤ s.n * s.sz := by rw [← Nat.succ_mul]; exact Nat.mul_le_mul_right _ hi
    have hr := h.room
    refine ⟨some ⟨kb, i * s.sz, none⟩, kc - i * s.sz, ?_, ?_, ?_, hB⟩
    · show _ = Ending.returned (.slice _ (lastOf s.waits i (s.kept.getD i [])).length _)
      rw [hl, hbl.1]
    · show (lastOf s.waits i (s.kept.getD i [])).length ≤ _
      rw [hl, hbl.1]; omega
    · show Bys w w.heap.size _ (lastOf s.waits i (s.kept.getD i []))
      rw [hl]
      refine ⟨hbl.2, fun _ => ⟨kb, i * s.sz, rfl, h.kl, fun j hj => ?_⟩⟩
      rw [hbl.1] at hj
      rw [h.kept.cell (i * s.sz + j) (by rw [fl, kl]; omega), ← flat_get s.kept i kz (by omega)]
      simp [hj])
  have HW := Lib.hid h.wsE
  clear h hwf hm hN
  have h1 : 1 ≤ 6 := by omega
  refine (callsIn_wide (n := 6)).1 ?_
  refine callsIn_of_wp_marks Try.func34 rfl trivial ?_ rfl
  simp only [Try.ntmps34, List.size_toArray, List.length_cons, List.length_nil, Nat.reduceAdd, Nat.reduceSub, Array.replicate_succ, Array.replicate_zero, List.push_toArray, List.append_toArray, List.nil_append, List.cons_append]
  gi_wp2_with (refine ⟨trivial, ?_⟩; gi_at_call 41; refine (back_in (6 - 1) _ _ _ _).mono ?_; rintro e w' ⟨rfl, rfl⟩)
  have bI := ((Boxed.new w 3 (.int .i64 (i : Int))).alloc (.cells #[.slice none 0 0] 32)).alloc (.cells #[.slice A2 N cc] 54)
  have bR := (Boxed.new (w.alloc (.cells #[.int .i64 (i : Int)] 3)) 32 (.slice none 0 0)).alloc (.cells #[.slice A2 N cc] 54)
  have bS := Boxed.new ((w.alloc (.cells #[.int .i64 (i : Int)] 3)).alloc (.cells #[.slice none 0 0] 32)) 54 (.slice A2 N cc)
  simp only [World.size_alloc] at bR bS
  have hB0 : Below w.heap.size w (((w.alloc (.cells #[.int .i64 (i : Int)] 3)).alloc (.cells #[.slice none 0 0] 32)).alloc (.cells #[.slice A2 N cc] 54)) := (((Below.refl _ w).alloc (Nat.le_refl _) _).alloc (by simp) _).alloc (by simp; omega) _
  have hsz : (((w.alloc (.cells #[.int .i64 (i : Int)] 3)).alloc (.cells #[.slice none 0 0] 32)).alloc (.cells #[.slice A2 N cc] 54)).heap.size = w.heap.size + 3 := by simp
  obtain ⟨W0, hW0⟩ : ∃ W0, ((w.alloc (.cells #[.int .i64 (i : Int)] 3)).alloc (.cells #[.slice none 0 0] 32)).alloc (.cells #[.slice A2 N cc] 54) = W0 := ⟨_, rfl⟩
  rw [hW0] at bI bR bS hB0 hsz ⊢
  clear hW0
  refine wpIn_rangeFunc_ownH rfl h1 (gf := 43) (lb := #[.pointer (some ⟨w.heap.size + 1 + 1, 0, none⟩)]) rfl trivial (enters_of Try.func43 (by kernel_rfl) rfl)
    (back_stops (6 - 1) (by omega) (w.heap.size + 1 + 1) W0.heap.size N cc A2 ws HN.out.symm hm' W0 (by omega) (Nat.le_refl _) bS.cell (fun hl => by obtain ⟨b, o, e, hb, hc⟩ := (HWT.out.below hB0) hl; exact ⟨b, o, e, by omega, hc⟩)) belowK_t (belowK_b (Nat.le_refl _)) (Below.refl _ _) (fun _ => rfl)
    (fun pre W => (∀ p, p ∈ pre → p.2.i ≠ i) ∧ Below W0.heap.size W0 W)
    (fun c pre W => (c = .ret ∧ ∃ ini last, pre = ini ++ [last] ∧ (∀ p, p ∈ ini → p.2.i ≠ i) ∧ last.2.i = i ∧ W.cell? ⟨w.heap.size + 1, 0, none⟩ = some (.slice last.2.A last.2.bs.length last.2.c)) ∧ Below w.heap.size w W)
    (OwnFrom.and (ownFrom_pure _ _) (ownFrom_below (Nat.le_refl _) (Nat.le_refl _)))
    (fun c => OwnFrom.and (Own.from (fun s A B row hs hg hr => by obtain ⟨hc, ini, last, e1, e2, e3, e4⟩ := hs; exact ⟨hc, ini, last, e1, e2, e3, cell_kept e4 hg hr⟩) _) (ownFrom_below (Nat.le_refl _) (by omega)))
    ⟨by simp, Below.refl _ _⟩
    (fun x a' W => ∃ Bx, W0.heap.size ≤ Bx ∧ Box2 W Bx x.2 ∧ a' = { tmps := #[.pointer (some ⟨g, 0, none⟩), .int .i64 (i : Int), undef, .pointer (some ⟨w.heap.size, 0, none⟩), .pointer (some ⟨w.heap.size + 1, 0, none⟩), undef, .pointer (some ⟨Bx, 0, none⟩), .pointer (some ⟨g, 0, none⟩), .pointer (some ⟨g, 0, none⟩), .pointer (some ⟨g, 2, none⟩), .slice A2 N cc, .func (.func 43) #[] #[.pointer (some ⟨w.heap.size + 1 + 1, 0, none⟩)], .int .i64 (x.1 : Int), .agg #[.int .i64 (x.2.i : Int), .slice x.2.A x.2.bs.length x.2.c], undef, undef, undef, undef, undef, undef, undef, undef, undef], defers := [] })
    (fun x a' _ X Y row hs hg hr => by
      obtain ⟨Bx, h1, h2, h3⟩ := hs
      refine ⟨Bx, h1, ?_, h3⟩
      have hlt := (Array.getElem?_eq_some_iff.1 h2).1
      refine (hg.block Bx hlt (fun e' => ?_)).trans h2
      obtain ⟨o, ho, hc⟩ := (hr Bx e'.symm).2
      rw [show X.heap[Bx]? = _ from h2] at ho
      cases ho
      cases hc)
    ?assign ?body ?done ?stop
  case assign =>
    rintro l pre x W K ⟨hp, hB1⟩ hK
    have hsz1 := hB1.size
    unfold encW
    gi_wp2
    exact hK _ _ ((KeepsOthers.alloc _ _).from _) ((Below.refl _ W).alloc hsz1 _) ⟨hp, hB1.alloc hsz1 _⟩ ⟨W.heap.size, hsz1, World.alloc_heap_new W _, rfl⟩
  case body =>
    rintro l pre x a' W hl _ ⟨hp, hB1⟩ ⟨Bx, hBx, bX, rfl⟩ _
    obtain ⟨cX0, cX1⟩ := bX.cells
    have cI : W.cell? ⟨w.heap.size, 0, none⟩ = some (.int .i64 (i : Int)) := (hB1.cell (p := ⟨w.heap.size, 0, none⟩) (by show w.heap.size < W0.heap.size; omega)).trans bI.cell
    have cR : W.cell? ⟨w.heap.size + 1, 0, none⟩ = some (.slice none 0 0) := (hB1.cell (p := ⟨w.heap.size + 1, 0, none⟩) (by show w.heap.size + 1 < W0.heap.size; omega)).trans bR.cell
    have fR : W.frozen? ⟨w.heap.size + 1, 0, none⟩ = false := (hB1.frozen (p := ⟨w.heap.size + 1, 0, none⟩) (by show w.heap.size + 1 < W0.heap.size; omega)).trans bR.frozen
    have HB2 := Lib.hid (hB0.trans (hB1.mono (by omega)))
    have HP := Lib.hid hp
    have HB1 := Lib.hid hB1
    by_cases hx : x.2.i = i
    · have t1 : ((x.2.i : Int) == (i : Int)) = true := by simp [hx]
      have HX := Lib.hid hx
      clear hx hp hB1 bX
      gi_wp2
      exact ⟨(KeepsOthers.setCell _ _ _).from _, ⟨rfl, pre, x, rfl, HP.out, HX.out, World.cell?_setCell_same' _ _ _ (by rw [cR]; rfl)⟩, HB2.out.setCell (p := ⟨w.heap.size + 1, 0, none⟩) (by show w.heap.size ≤ w.heap.size + 1; omega) _⟩
    · have t1 : ((x.2.i : Int) == (i : Int)) = false := by simp; omega
      have HX := Lib.hid hx
      clear hx hp hB1 bX
      gi_wp2
      exact ⟨KeepsFrom.refl _ _, Below.refl _ _, fun p hp' => (List.mem_append.1 hp').elim (HP.out p) (fun e => by rw [List.mem_singleton] at e; subst e; exact HX.out), HB1.out⟩
  case done =>
    rintro D ys W hD rfl ⟨hp, hB1⟩ hK
    have hB2 := hB0.trans (hB1.mono (by omega))
    have cI : W.cell? ⟨w.heap.size, 0, none⟩ = some (.int .i64 (i : Int)) := (hB1.cell (p := ⟨w.heap.size, 0, none⟩) (by show w.heap.size < W0.heap.size; omega)).trans bI.cell
    have cR : W.cell? ⟨w.heap.size + 1, 0, none⟩ = some (.slice none 0 0) := (hB1.cell (p := ⟨w.heap.size + 1, 0, none⟩) (by show w.heap.size + 1 < W0.heap.size; omega)).trans bR.cell
    have fR : W.frozen? ⟨w.heap.size + 1, 0, none⟩ = false := (hB1.frozen (p := ⟨w.heap.size + 1, 0, none⟩) (by show w.heap.size + 1 < W0.heap.size; omega)).trans bR.frozen
    have CA := Lib.hid (HSTAY.out W hB2)
    have HF := Lib.hid (HNONE.out (by rw [← HW.out]; exact lastOf_none i _ _ (own_ne (by rw [← HN.out]; exact hp))))
    have HB2 := Lib.hid hB2
    clear hp hB1 hB2
    gi_wp2_with (refine ⟨trivial, ?_⟩; gi_at_call 37; refine (callsIn_wide.2 CA.out).mono ?_; rintro e w' ⟨rfl, m, rfl⟩)
    have hK' := (KeepsOthers.setCell (W.drewN m) ⟨w.heap.size + 1, 0, none⟩ (.slice (some ⟨kb, i * s.sz, none⟩) s.sz (kc - i * s.sz))).same D _ hK rfl
    refine ⟨by simp, .inl ⟨_, _, rfl, run_takeDeferred hK', ?_⟩⟩
    have cR' : (W.drewN m).cell? ⟨w.heap.size + 1, 0, none⟩ = some (.slice none 0 0) := cR
    have hc5 := cell_kept (World.cell?_setCell_same' (W.drewN m) ⟨w.heap.size + 1, 0, none⟩ (.slice (some ⟨kb, i * s.sz, none⟩) s.sz (kc - i * s.sz)) (by rw [cR']; rfl)) (grownBy_putObj' _ D (.deferred none)) (fun r e => by cases e; exact ⟨_, hK', rfl⟩)
    refine ⟨.slice (some ⟨kb, i * s.sz, none⟩) s.sz (kc - i * s.sz), ?_, HF.out _ (((below_drewN HB2.out m).setCell (p := ⟨w.heap.size + 1, 0, none⟩) (by show w.heap.size ≤ w.heap.size + 1; omega) _).trans (belowK_b (w := w) (Nat.le_refl _) _ D _ _ (by omega) hK' rfl rfl))⟩
    simp [results, Try.f34, go_sem, hc5]
  case stop =>
    rintro D c pre W hD ⟨k, hk, rfl⟩ ⟨⟨rfl, ini, last, e1, e2, e3, hcr⟩, hB⟩ hK
    gi_wp2
    refine ⟨by simp, .inl ⟨_, _, rfl, run_takeDeferred hK, ?_⟩⟩
    have hc5 := cell_kept hcr (grownBy_putObj' _ D (.deferred none)) (fun r e => by cases e; exact ⟨_, hK, rfl⟩)
    obtain ⟨f1, f2⟩ := found (ws := ws) (i := i) (by rw [← HN.out]; exact hk) e1 e2 e3 (s.kept.getD i [])
    rw [HW.out] at f2
    refine ⟨.slice last.2.A last.2.bs.length last.2.c, ?_, HSOME.out _ f1 f2 _ (hB.trans (belowK_b (w := w) (Nat.le_refl _) W D _ _ (by omega) hK rfl rfl))⟩
    simp [results, Try.f34, go_sem, hc5]

theorem read_nil (w : World) (v : Value) : Calls Try.prog 19 #[.pointer none, v] w fun en w' => en = .returned (.tuple #[.slice none 0 0, .int .i64 1]) ∧ w = w' := by
  have C := Lib.hid (ready_nil w)
  go_enter Try.func19, Try.ntmps19
  go_wp2_with fail
  refine C.out.mono ?_
  rintro en w' ⟨rfl, rfl⟩
  go_wp2
  go_ret2
  exact ⟨rfl, rfl⟩
/-- What Read leaves: bytes (or none) and the error's number. -/
def ReadP (r : List Nat × Nat) (w : World) (en : Ending) (w' : World) : Prop := ∃ A c, en = .returned (.tuple #[.slice A r.1.length c, .int .i64 (r.2 : Int)]) ∧ r.1.length ≤ c ∧ (A = none → c = 0) ∧ Bys w' w'.heap.size A r.1 ∧ (∀ b, Option.map Addr.block A = some b → w.heap.size ≤ b) ∧ Below w.heap.size w w'
theorem ReadP.len {r : List Nat × Nat} {w w' : World} {en : Ending} {n : Nat} (h : ReadP r w en w') (hn : r.1.length = n) :
    ∃ A c, en = .returned (.tuple #[.slice A n c, .int .i64 (r.2 : Int)]) ∧ n ≤ c ∧ (A = none → c = 0) ∧ Bys w' w'.heap.size A r.1 ∧ (∀ b, Option.map Addr.block A = some b → w.heap.size ≤ b) ∧ Below w.heap.size w w' := by subst hn; exact h
/-- Bytes in a new block lie beside what lay there. -/
theorem Bys.apart {w w' : World} {A : Option Addr} {bs : List Nat} {ok : Nat → Prop} (h : Bys w' w'.heap.size A bs) (hN : ∀ b, Option.map Addr.block A = some b → w.heap.size ≤ b) (hk : ∀ b, w.heap.size ≤ b → b < w'.heap.size → ok b) : ByL w' ok A bs :=
  ⟨h.1, fun hl => by obtain ⟨b, off, e, hb, hc⟩ := h.2 hl; exact ⟨b, off, e, hb, hk b (hN b (by rw [e]; rfl)) hb, hc⟩⟩
theorem read_any {w : World} {g : Nat} {κ : Nat → Nat} {s : St} (h : Dsk w g κ s) (i : Int) (hm : s.waits.length ≤ 4294967296) :
    Calls Try.prog 19 #[.pointer (some ⟨g, 0, none⟩), .int .i64 i] w (ReadP (s.read i) w) := by
  have C := Lib.hid (ready_any h)
  by_cases hr : s.ready = 0
  · rw [hr] at C
    have D := Lib.hid (has_any h i)
    cases hh : s.has i with
    | false =>
      have e1 : s.read i = ([], 41) := by unfold St.read; rw [if_neg (by omega), hh]; rfl
      rw [e1]
      rw [hh] at D
      clear h e1 hh hr
      go_enter Try.func19, Try.ntmps19
      go_wp2_with fail
      refine C.out.mono ?_
      rintro en w' ⟨rfl, rfl⟩
      go_wp2_with fail
      refine D.out.mono ?_
      rintro en w' ⟨rfl, m, rfl⟩
      go_wp2
      go_ret2
      exact ⟨none, 0, rfl, Nat.le_refl _, fun _ => rfl, Bys.nil _ _ _, fun b h => (by cases h), below_drewN_self w m⟩
    | true =>
      obtain ⟨h0, h1⟩ := (has_iff s i).1 hh
      have ei : i = (i.toNat : Int) := by omega
      have e1 : s.read i = (s.last i.toNat, 0) := by unfold St.read; rw [if_neg (by omega), hh]; rfl
      rw [e1]
      rw [hh] at D
      have hi : i.toNat < s.n := by omega
      have L := Lib.hid (fun m => last_any (h.below (below_drewN_self w m)) i.toNat hi hm)
      have HL := Lib.hid (show (s.last i.toNat).length ≤ 4294967296 from by
        have hw := h.wf
        have z1 := hw.z1
        have key : ∀ (us : List (Nat × List Nat)) (b : List Nat), (∀ p, p ∈ us → p.2.length = s.sz) → b.length = s.sz → (lastOf us i.toNat b).length = s.sz := by
          intro us
          induction us with
          | nil => exact fun b _ hb => hb
          | cons p us ih =>
            intro b hp hb
            show (lastOf us i.toNat (if p.1 = i.toNat then p.2 else b)).length = _
            refine ih _ (fun q hq => hp q (List.mem_cons_of_mem _ hq)) ?_
            split
            · exact hp p List.mem_cons_self
            · exact hb
        have hmem : s.kept.getD i.toNat [] ∈ s.kept := by
          have := hw.kl
          rw [List.getD_eq_getElem?_getD, List.getElem?_eq_getElem (by omega)]; exact List.getElem_mem _
        have : (s.last i.toNat).length = s.sz := key _ _ (fun p hp => (hw.wb p hp).2.1) (hw.kb _ hmem).1
        omega)
      clear h e1 hh hr h0 h1 hi
      generalize s.last i.toNat = bs at *
      generalize i.toNat = k at *
      subst ei
      go_enter Try.func19, Try.ntmps19
      go_wp2_with fail
      refine C.out.mono ?_
      rintro en w' ⟨rfl, rfl⟩
      go_wp2_with fail
      refine D.out.mono ?_
      rintro en w' ⟨rfl, m, rfl⟩
      have L1 := Lib.hid (L.out m)
      have HB0 := Lib.hid (below_drewN_self w m)
      clear L C D
      generalize w.drewN m = w1 at *
      go_wp2_with fail
      refine L1.out.mono ?_
      rintro en w2 ⟨A, c, rfl, hc, hb, hB⟩
      have C2 := Lib.hid (clone_anyN A bs.length c bs rfl HL.out w2 w1.heap.size hB.size (hb.below hB))
      have HB1 := Lib.hid (HB0.out.trans (hB.mono HB0.out.size))
      clear hc hb hB L1 HB0
      generalize hbl : bs.length = n at *
      have HBL := Lib.hid hbl
      clear hbl
      go_wp2_with fail
      refine C2.out.mono ?_
      rintro en w3 ⟨A', c', rfl, hc', hA', hb', hN', hB'⟩
      have HF := Lib.hid (show ReadP (bs, 0) w (.returned (.tuple #[.slice A' n c', .int .i64 0])) w3 from ⟨A', c', by rw [HBL.out]; rfl, by rw [HBL.out]; exact hc', hA', hb', fun b hb => Nat.le_trans HB1.out.size (hN' b hb), HB1.out.trans (hB'.mono HB1.out.size)⟩)
      clear hc' hA' hb' hB' hN'
      go_wp2
      go_ret2
      exact HF.out
  · have e1 : s.read i = ([], s.ready) := by unfold St.read; rw [if_pos hr]
    rw [e1]
    have t1 : ((s.ready : Int) == 0) = false := by simp; omega
    have t2 : ((s.ready : Int) != 0) = true := by simp; omega
    clear h e1
    generalize s.ready = r at *
    go_enter Try.func19, Try.ntmps19
    go_wp2_with fail
    refine C.out.mono ?_
    rintro en w' ⟨rfl, rfl⟩
    go_wp2
    go_ret2
    exact ⟨none, 0, rfl, Nat.le_refl _, fun _ => rfl, Bys.nil _ _ _, fun b h => (by cases h), Below.refl _ _⟩
end Go.Proofs.Ytfjaiolgbcindaa
