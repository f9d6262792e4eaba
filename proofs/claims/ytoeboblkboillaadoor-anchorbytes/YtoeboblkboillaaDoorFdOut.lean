/-
  Contracts of field's Writer: Fixed, Number, Bytes and Out, in all ways. Conditions: the writer lies in memory as its methods leave it (or is none); the bytes lie outside its blocks; the table of widths stands in its variable.
-/
import Derived.Test.YtoeboblkboillaaDoorFdWrite
namespace Go.Proofs.YtoeboblkboillaaDoor
open Go.RowKit Arr Fld

section
variable {w w1 w' : World} {g : Nat} {F : Nat → Prop} {s : List Nat × Nat} {en : Ending}
theorem WrtP.from (h : WrtP g F s w1 en w') (hT : Touch F w w1) : WrtP g F s w en w' := by
  obtain ⟨h1, F', h2, h3, h4⟩ := h
  exact ⟨h1, F', h2, hT.trans h3 (fun x hx => .inl hx), fun k hk => (h4 k hk).imp id (fun h5 => Nat.le_trans hT.size h5)⟩
/-- FIXED. -/
theorem wfixed_any (h : Wtr w g F s) (A : Option Addr) (m c : Nat) (ys : List Nat) (hA : A = none → c = 0) (hl : ys.length = m) (hx : BysX w F A ys) (hm : s.1.length + m ≤ 4294967296) :
    Calls Tryd.prog 16 #[.pointer (some ⟨g, 0, none⟩), .slice A m c] w (WrtP g F (wput s (some ys)) w) := by
  by_cases hs : s.2 = 0
  · obtain ⟨bs, e0⟩ := s
    simp only at hs hm
    subst hs
    have hw : wput (bs, 0) (some ys) = (bs ++ ys, 0) := rfl
    rw [hw]
    rcases h.text with ⟨h1, h2, h3⟩ | ⟨t, v, k1, k2, k3, k4, k5, k6, k7, k8⟩
    · have h1 : bs = [] := h1
      subst h1
      exact wfixed_first h h2 h3 hA hl rfl (by omega) hx
    · obtain ⟨A0, c0, rfl, _, _, _, _⟩ := owns_any k7 h.bytes
      have T : Txt w g t (.slice A0 bs.length c0) bs := ⟨h.err, h.free, k2, k3, ⟨_, k4⟩, k5, k6, k7⟩
      refine wfixed_text T rfl k4 hA hl rfl (by omega) hx.bys ?_
      rintro w1 ⟨k, rfl⟩ w2 v' hown hgr hat
      have hql : (bs ++ ys).length = bs.length + m := by rw [List.length_append, hl]
      rw [← hql] at hown ⊢
      exact (T.drewN k).done ((Touch.refl F w).drewN k) h.own h.lt (.inl k1) (fun b hb => .inl (k8 b hb)) (fun x hx' => (List.mem_append.1 hx').elim (h.bytes x) (hx.1 x)) hgr hown hat _ rfl
  · rw [wput_bad hs]
    exact wfixed_bad h hs _

theorem wnumber_nil (w : World) (n size : Value) : Calls Tryd.prog 15 #[.pointer none, n, size] w fun en w' => en = .returned (.tuple #[]) ∧ w = w' := by
  go_enter Tryd.func15, Tryd.ntmps15
  go_wp2
  (try simp only [Exit.inBlock, Exit.then])
  refine bodyPost_ret (results_none rfl _ _ _) rfl ?_
  exact ⟨rfl, rfl⟩
theorem wnumber_none (h : Wtr w g F s) (n size : Int) (hp : putOk n size = false) (ht : Tab w 0) :
    Calls Tryd.prog 15 #[.pointer (some ⟨g, 0, none⟩), .int .i64 n, .int .i64 size] w (WrtP g F (wput s none) w) := by
  have C := Lib.hid (put_none n size hp w ht)
  have D : Go.RowKit.Hid (Calls Tryd.prog 24 #[.pointer (some ⟨g, 0, none⟩), .int .i64 2] w (WrtP g F (wput s none) w)) := Lib.hid (by
    by_cases hs : s.2 = 0
    · obtain ⟨bs, e0⟩ := s
      simp only at hs
      subst hs
      refine (fail_no h.err (h.free 0) 2).mono ?_
      rintro en w' ⟨rfl, rfl⟩
      exact ⟨rfl, F, h.fail 2, (Touch.refl F w).setCell (.inl h.own) 0 _, fun k hk => .inl hk⟩
    · refine (fail_yes h.err hs _).mono ?_
      rintro en w' ⟨rfl, rfl⟩
      rw [wput_bad hs]
      exact ⟨rfl, F, h, Touch.refl _ _, fun k hk => .inl hk⟩)
  clear h hp ht
  go_enter Tryd.func15, Tryd.ntmps15
  go_wp2_with fail
  refine C.out.mono ?_
  rintro en w' ⟨rfl, rfl⟩
  go_wp2_with fail
  refine D.out.mono ?_
  rintro en w' ⟨rfl, hW⟩
  have HW := Lib.hid hW
  clear hW C D
  go_wp2
  (try simp only [Exit.inBlock, Exit.then])
  refine bodyPost_ret (results_none rfl _ _ _) rfl ?_
  exact ⟨rfl, HW.out⟩
theorem wnumber_some (h : Wtr w g F s) (m k : Nat) (h1 : 1 ≤ k) (h2 : k ≤ 8) (h3 : m ≤ 4611686018427387904) (h4 : m < 256 ^ k) (hm : s.1.length + 8 ≤ 4294967296) (ht : Tab w 0) :
    Calls Tryd.prog 15 #[.pointer (some ⟨g, 0, none⟩), .int .i64 (m : Int), .int .i64 (k : Int)] w (WrtP g F (wput s (some (bytesOf m k))) w) := by
  have C := Lib.hid (put_some m k h1 h2 h3 h4 w ht)
  have D := Lib.hid (fun (arr : Array Value) (hla : Laid m k k arr) => by
    have hT : Touch F w (w.alloc (.cells arr 5)) := (Touch.refl F w).alloc _
    have hb := hla.bys w
    have hx : BysX (w.alloc (.cells arr 5)) F (some ⟨w.heap.size, 0, none⟩) (bytesOf m k) := ⟨hb.1, fun hp => by
      obtain ⟨b, off, e, hbl, hc⟩ := hb.2 hp
      have e' := e
      simp only [Option.some.injEq, Addr.mk.injEq, and_true] at e'
      exact ⟨b, off, e, by simp; omega, fun hF => by have := (h.lt b hF).2; omega, hc⟩⟩
    exact (wfixed_any (h.below (below_alloc w _)) (some ⟨w.heap.size, 0, none⟩) k k (bytesOf m k) (fun e => by cases e) (length_bytesOf m k) hx (by omega)).mono fun en w' hW => hW.from hT)
  clear h ht h3 h4
  go_enter Tryd.func15, Tryd.ntmps15
  go_wp2_with fail
  refine C.out.mono ?_
  rintro en w' ⟨arr, hla, rfl, rfl⟩
  have DD := Lib.hid (D.out arr hla)
  clear hla D C
  go_wp2_with fail
  refine DD.out.mono ?_
  rintro en w' ⟨rfl, hW⟩
  have HW := Lib.hid hW
  clear hW DD
  go_wp2
  go_end0
  exact ⟨rfl, HW.out⟩
/-- NUMBER. -/
theorem wnumber_any (h : Wtr w g F s) (n size : Int) (hm : s.1.length + 8 ≤ 4294967296) (ht : Tab w 0) :
    Calls Tryd.prog 15 #[.pointer (some ⟨g, 0, none⟩), .int .i64 n, .int .i64 size] w (WrtP g F (wput s (numF n size)) w) := by
  cases hp : putOk n size with
  | false =>
    have : numF n size = none := by unfold numF; rw [hp]; rfl
    rw [this]; exact wnumber_none h n size hp ht
  | true =>
    have e : numF n size = some (bytesOf n.toNat size.toNat) := by unfold numF; rw [if_pos hp]
    rw [e]
    obtain ⟨m, k, rfl, rfl, h1, h2, h3, h4⟩ := putOk_parts hp
    exact wnumber_some h m k h1 h2 h3 h4 hm ht

theorem wput_len (s : List Nat × Nat) (n size : Int) : (wput s (numF n size)).1.length ≤ s.1.length + 8 := by
  unfold wput
  split
  · cases hf : numF n size with
    | some x => have := numF_len hf; simp; omega
    | none => simp
  · omega
theorem wout_nil (w : World) : Calls Tryd.prog 17 #[.pointer none] w fun en w' => en = .returned (.tuple #[.slice none 0 0, .int .i64 1]) ∧ w = w' := by
  go_enter Tryd.func17, Tryd.ntmps17
  go_wp2
  go_ret2
  exact ⟨rfl, rfl⟩
/-- What Out answers. -/
def outB (s : List Nat × Nat) : List Nat := if s.2 = 0 then s.1 else []
theorem wout_bad (h : Wtr w g F s) (hs : s.2 ≠ 0) : Calls Tryd.prog 17 #[.pointer (some ⟨g, 0, none⟩)] w (GivesF [] s.2 w) := by
  have C := Lib.hid (failed_yes h.err hs)
  have a1 := h.err
  clear h hs
  generalize s.2 = x at *
  go_enter Tryd.func17, Tryd.ntmps17
  go_wp2_with fail
  refine C.out.mono ?_
  rintro en w' ⟨rfl, rfl⟩
  go_wp2
  go_quiet (fail)
  go_wp2
  go_ret2
  exact ⟨_, rfl, LiesF.nil _ _, below_drewN_self _ _⟩
theorem wout_ok {bs : List Nat} (h : Wtr w g F (bs, 0)) (hm : bs.length ≤ 4294967296) : Calls Tryd.prog 17 #[.pointer (some ⟨g, 0, none⟩)] w (GivesF bs 0 w) := by
  have C := Lib.hid (failed_no h.err)
  have D := Lib.hid (written_any h)
  clear h
  go_enter Tryd.func17, Tryd.ntmps17
  go_wp2_with fail
  refine C.out.mono ?_
  rintro en w' ⟨rfl, rfl⟩
  go_wp2_with fail
  refine D.out.mono ?_
  rintro en w' ⟨A, c, m, rfl, hc, hA, hb, rfl⟩
  have E := Lib.hid (clone_anyN A bs.length c bs rfl hm (w.drewN m) w.heap.size (Nat.le_refl _) hb)
  clear hc hA hb D C
  obtain ⟨N, hN⟩ : ∃ N, N = bs.length := ⟨_, rfl⟩
  have HN := Lib.hid hN
  rw [← hN] at E ⊢
  clear hN hm
  go_wp2_with fail
  refine E.out.mono ?_
  rintro en w2 ⟨A2, c2, rfl, hc2, hA2, hb2, hf2, hB2⟩
  have HP := Lib.hid (show GivesF bs 0 w (.returned (.tuple #[.slice A2 N c2, .int .i64 0])) w2 from
    ⟨_, rfl, ⟨A2, c2, by rw [HN.out], by rw [← HN.out]; exact hc2, hA2, hb2, hf2⟩, (below_drewN_self w m).trans hB2⟩)
  clear hc2 hA2 hb2 hf2 hB2 E
  go_wp2
  go_ret2
  exact HP.out
/-- OUT. -/
theorem wout_any (h : Wtr w g F s) (hm : s.1.length ≤ 4294967296) : Calls Tryd.prog 17 #[.pointer (some ⟨g, 0, none⟩)] w (GivesF (outB s) s.2 w) := by
  unfold outB
  by_cases hs : s.2 = 0
  · obtain ⟨bs, e0⟩ := s
    simp only at hs
    subst hs
    exact wout_ok h hm
  · rw [if_neg hs]; exact wout_bad h hs
end
end Go.Proofs.YtoeboblkboillaaDoor
