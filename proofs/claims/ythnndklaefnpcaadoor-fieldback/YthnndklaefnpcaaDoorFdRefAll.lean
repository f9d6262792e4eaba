/-
  Contracts of the reference's Writer, in all ways. Conditions: the writer lies in memory as its methods leave it; bytes that are counted are at most 65,535.
-/
import Derived.Test.YthnndklaefnpcaaDoorFdRef
namespace Go.Proofs.YthnndklaefnpcaaDoor
open Go.RowKit Arr Fld

section
variable {w : World} {g : Nat} {F : Nat → Prop} {s : List Nat × Nat}
/-- The reference's FIXED. -/
theorem vfixed_any (h : RWtr w g F s) (A : Option Addr) (m c : Nat) (ys : List Nat) (hA : A = none → c = 0) (hl : ys.length = m) (hx : Bys w w.heap.size A ys) (hm : s.1.length + m ≤ 4294967296) :
    Calls Tryd.prog 22 #[.pointer (some ⟨g, 0, none⟩), .slice A m c] w (RWrtP g F (wput s (some ys)) w) := by
  by_cases hs : s.2 = 0
  · obtain ⟨bs, e0⟩ := s
    simp only at hs hm
    subst hs
    exact vfixed_ok h A m c _ ys hA hl hx rfl hm
  · rw [wput_bad hs]
    exact vfixed_bad h hs _

theorem vnumber_none_ok {bs : List Nat} (h : RWtr w g F (bs, 0)) (n size : Int) (CP : Calls Tryd.prog 34 #[.int .i64 n, .int .i64 size] w (RPutNone w)) :
    Calls Tryd.prog 20 #[.pointer (some ⟨g, 0, none⟩), .int .i64 n, .int .i64 size] w (RWrtP g F (bs, 2) w) := by
  have C := Lib.hid CP
  have HW := Lib.hid h
  clear CP h
  go_enter Tryd.func20, Tryd.ntmps20
  go_wp2_with fail
  refine C.out.mono ?_
  rintro en w1 ⟨rfl, hB⟩
  have H1 := HW.out.below hB
  have HP := Lib.hid (show RWrtP g F (bs, 2) w (.returned (.tuple #[])) (w1.setCell ⟨g, 1, none⟩ (.int .i64 (2 : Nat))) from ⟨rfl, F, H1.fail 2, (Touch.of F hB).setCell (.inl H1.own) 1 _, fun k hk => .inl hk⟩)
  have a1 : w1.cell? ⟨g, 1, none⟩ = some (.int .i64 0) := H1.err
  have a2 := H1.free 1
  have a3 : (w1.setCell ⟨g, 1, none⟩ (.int .i64 2)).cell? ⟨g, 1, none⟩ = some (.int .i64 2) := World.cell?_setCell_same _ _ _ a1
  clear hB H1 HW C
  go_wp2
  go_end0
  exact HP.out
theorem vnumber_none_bad (h : RWtr w g F s) (hs : s.2 ≠ 0) (n size : Int) (CP : Calls Tryd.prog 34 #[.int .i64 n, .int .i64 size] w (RPutNone w)) :
    Calls Tryd.prog 20 #[.pointer (some ⟨g, 0, none⟩), .int .i64 n, .int .i64 size] w (RWrtP g F s w) := by
  have C := Lib.hid CP
  have HW := Lib.hid h
  have t1 : ((s.2 : Int) == 0) = false := by simp; omega
  clear CP h hs
  go_enter Tryd.func20, Tryd.ntmps20
  go_wp2_with fail
  refine C.out.mono ?_
  rintro en w1 ⟨rfl, hB⟩
  have H1 := HW.out.below hB
  have HP := Lib.hid (show RWrtP g F s w (.returned (.tuple #[])) w1 from ⟨rfl, F, H1, Touch.of F hB, fun k hk => .inl hk⟩)
  have a1 := H1.err
  clear hB H1 HW C
  generalize s.2 = x at *
  go_wp2
  go_end0
  exact HP.out
theorem vnumber_some_bad (h : RWtr w g F s) (hs : s.2 ≠ 0) (n size : Int) (m k : Nat) (CP : Calls Tryd.prog 34 #[.int .i64 n, .int .i64 size] w (RPutSome m k w)) :
    Calls Tryd.prog 20 #[.pointer (some ⟨g, 0, none⟩), .int .i64 n, .int .i64 size] w (RWrtP g F s w) := by
  have C := Lib.hid CP
  have HW := Lib.hid h
  have t1 : ((s.2 : Int) == 0) = false := by simp; omega
  clear CP h hs
  go_enter Tryd.func20, Tryd.ntmps20
  go_wp2_with fail
  refine C.out.mono ?_
  rintro en w1 ⟨A, c, rfl, _, hB⟩
  have H1 := HW.out.below hB
  have HP := Lib.hid (show RWrtP g F s w (.returned (.tuple #[])) w1 from ⟨rfl, F, H1, Touch.of F hB, fun k hk => .inl hk⟩)
  have a1 := H1.err
  clear hB H1 HW C
  generalize s.2 = x at *
  go_wp2
  go_end0
  exact HP.out
theorem vnumber_some_ok {bs : List Nat} (h : RWtr w g F (bs, 0)) (n size : Int) (m k q : Nat) (hk : 1 ≤ k) (hq : bs.length + k = q) (hm : q ≤ 4294967296) (CP : Calls Tryd.prog 34 #[.int .i64 n, .int .i64 size] w (RPutSome m k w)) :
    Calls Tryd.prog 20 #[.pointer (some ⟨g, 0, none⟩), .int .i64 n, .int .i64 size] w (RWrtP g F (bs ++ bytesOf m k, 0) w) := by
  have C := Lib.hid CP
  have HW := Lib.hid h
  have HQ := Lib.hid hq
  clear CP h hq
  go_enter Tryd.func20, Tryd.ntmps20
  go_wp2_with fail
  refine C.out.mono ?_
  rintro en w1 ⟨A, c, rfl, hx, hB⟩
  have H1 := HW.out.below hB
  have hin := H1.inside
  have a1 : w1.cell? ⟨g, 1, none⟩ = some (.int .i64 0) := H1.err
  obtain ⟨v, h1, h2, h3⟩ := H1.row
  have HE := Lib.hid (fun (w2 : World) (v' : Value) (hgr : w1.grownBy w2 v.ownBlock) (hown : w2.ownsRow (g + 1) 5 1 v' q (vals .u8 (bs ++ bytesOf m k))) (hat : v'.ownBlock = v.ownBlock ∨ v'.ownBlock = some w1.heap.size) =>
    H1.more h1 h2 h3 (cs := bs ++ bytesOf m k) (fun x hx' => (List.mem_append.1 hx').elim (H1.bytes x) (hx.1 x)) hgr (by rw [List.length_append, length_bytesOf, HQ.out]; exact hown) hat)
  obtain ⟨A0, c0, rfl, _, _, _, _⟩ := owns_any h2 H1.bytes
  have HX := Lib.hid hx
  have H2 := Lib.hid h2
  have HA := Lib.hid (show A = none → c = 0 from fun h0 => by
    obtain ⟨_, _, e, _⟩ := hx.2 (by rw [length_bytesOf]; omega)
    rw [h0] at e; cases e)
  have HT := Lib.hid (Touch.of F hB)
  clear H1 h2 hx h3 hB HW C
  generalize hn : bs.length = N at *
  clear hn
  go_wp2_with (at_builtin; refine list_foot rfl (.tmp 35) (.tmp 36) 29 rfl (g + 1) 5 Tryd.underlying29 info_u8 (.slice A0 N c0) N bs rfl H2.out A k c (bytesOf m k) rfl HA.out (length_bytesOf m k) HX.out (by rw [HQ.out]; exact hm) (Nat.succ_le_of_lt hin) ?_; intro v' w2 hown hgr hat; rw [HQ.out] at hown; obtain ⟨e1, e2, e3⟩ := HE.out w2 v' hgr hown hat; have E3 := Lib.hid (e3.from HT.out); obtain ⟨A2, c2, rfl, _⟩ := owns_slice hown; clear hown hgr hat e3)
  go_end0
  exact E3.out
/-- The reference's NUMBER. -/
theorem vnumber_any (h : RWtr w g F s) (n size : Int) (hm : s.1.length + 8 ≤ 4294967296) :
    Calls Tryd.prog 20 #[.pointer (some ⟨g, 0, none⟩), .int .i64 n, .int .i64 size] w (RWrtP g F (wput s (numF n size)) w) := by
  cases hp : putOk n size with
  | false =>
    have e : numF n size = none := by unfold numF; rw [hp]; rfl
    rw [e]
    by_cases hs : s.2 = 0
    · obtain ⟨bs, e0⟩ := s
      simp only at hs
      subst hs
      exact vnumber_none_ok h n size (rput_none n size hp w)
    · rw [wput_bad hs]
      exact vnumber_none_bad h hs n size (rput_none n size hp w)
  | true =>
    have e : numF n size = some (bytesOf n.toNat size.toNat) := by unfold numF; rw [if_pos hp]
    rw [e]
    obtain ⟨m, k, rfl, rfl, h1, h2, h3, h4⟩ := putOk_parts hp
    by_cases hs : s.2 = 0
    · obtain ⟨bs, e0⟩ := s
      simp only at hs
      subst hs
      have hm : bs.length + 8 ≤ 4294967296 := hm
      exact vnumber_some_ok h _ _ m k _ h1 rfl (by omega) (rput_some m k h1 h2 h3 h4 w)
    · rw [wput_bad hs]
      exact vnumber_some_bad h hs _ _ m k (rput_some m k h1 h2 h3 h4 w)
theorem vbytes_bad (h : RWtr w g F s) (hs : s.2 ≠ 0) (A : Option Addr) (m c : Nat) (hm : m ≤ 65535) :
    Calls Tryd.prog 21 #[.pointer (some ⟨g, 0, none⟩), .slice A m c] w (RWrtP g F s w) := by
  have a1 := h.err
  have HP := Lib.hid (show RWrtP g F s w (.returned (.tuple #[])) w from ⟨rfl, F, h, Touch.refl _ _, fun _ hk => .inl hk⟩)
  have t1 : ((s.2 : Int) == 0) = false := by simp; omega
  have t2 : decide ((m : Int) > 65535) = false := by simp; omega
  clear h hs
  generalize s.2 = x at *
  go_enter Tryd.func21, Tryd.ntmps21
  go_wp2
  go_end0
  exact HP.out
theorem vbytes_ok {bs : List Nat} (h : RWtr w g F (bs, 0)) (A : Option Addr) (m c : Nat) (ys : List Nat) (hA : A = none → c = 0) (hl : ys.length = m) (hx : BysX w F A ys) (hm : m ≤ 65535) (hq : bs.length + 8 + m ≤ 4294967296) :
    Calls Tryd.prog 21 #[.pointer (some ⟨g, 0, none⟩), .slice A m c] w (RWrtP g F (wput (bs, 0) (bysF ys)) w) := by
  have a1 := h.err
  have C := Lib.hid (vnumber_any h (m : Int) 2 (by show bs.length + 8 ≤ _; omega))
  have D := Lib.hid (fun (F1 : Nat → Prop) (w1 : World) (h1 : RWtr w1 g F1 (wput (bs, 0) (numF (m : Int) 2))) (hT : Touch F w w1) (hF : ∀ k, F1 k → F k ∨ w.heap.size ≤ k) =>
    (vfixed_any h1 A m c ys hA hl (hx.touch hT hF).bys (by rw [numF_len2 hm]; show (bs ++ bytesOf m 2).length + m ≤ _; rw [List.length_append, length_bytesOf]; omega)).mono fun en w' (hW : RWrtP g F1 _ w1 en w') => show RWrtP g F (wput (bs, 0) (bysF ys)) w en w' from by
      obtain ⟨e1, F2, e2, e3, e4⟩ := hW
      rw [← hl, wput_bys] at e2
      exact ⟨e1, F2, e2, hT.trans e3 hF, fun k hk => (e4 k hk).elim (hF k) (fun h5 => .inr (Nat.le_trans hT.size h5))⟩)
  have t2 : decide ((m : Int) > 65535) = false := by simp; omega
  clear h hx hA hl hq
  have a1 : w.cell? ⟨g, 1, none⟩ = some (.int .i64 0) := a1
  go_enter Tryd.func21, Tryd.ntmps21
  go_wp2_with fail
  refine C.out.mono ?_
  rintro en w1 ⟨rfl, F1, hW, hT, hF⟩
  have DD := Lib.hid (D.out F1 w1 hW hT hF)
  clear hW hT hF D C a1
  go_wp2_with fail
  refine DD.out.mono ?_
  rintro en w2 ⟨rfl, hW⟩
  have HW := Lib.hid hW
  clear hW DD
  go_wp2
  go_end0
  exact ⟨rfl, HW.out⟩
/-- The reference's BYTES. -/
theorem vbytes_any (h : RWtr w g F s) (A : Option Addr) (m c : Nat) (ys : List Nat) (hA : A = none → c = 0) (hl : ys.length = m) (hx : BysX w F A ys) (hm : m ≤ 65535) (hq : s.1.length + 8 + m ≤ 4294967296) :
    Calls Tryd.prog 21 #[.pointer (some ⟨g, 0, none⟩), .slice A m c] w (RWrtP g F (wput s (bysF ys)) w) := by
  by_cases hs : s.2 = 0
  · obtain ⟨bs, e0⟩ := s
    simp only at hs
    subst hs
    exact vbytes_ok h A m c ys hA hl hx hm hq
  · rw [wput_bad hs]
    exact vbytes_bad h hs A m c hm

/-- What the reference's Out leaves. -/
def VOut (bs : List Nat) (e : Nat) (w : World) (en : Ending) (w' : World) : Prop := ∃ A c n, en = .returned (.tuple #[.slice A bs.length c, .int .i64 (e : Int)]) ∧ Bys w w.heap.size A bs ∧ w' = w.drewN n
theorem vout_bad (h : RWtr w g F s) (hs : s.2 ≠ 0) : Calls Tryd.prog 9 #[.pointer (some ⟨g, 0, none⟩)] w (VOut [] s.2 w) := by
  have a1 := h.err
  have t1 : ((s.2 : Int) != 0) = true := by simp; omega
  clear h hs
  generalize s.2 = x at *
  go_enter Tryd.func9, Tryd.ntmps9
  go_wp2
  go_quiet (fail)
  go_wp2
  go_ret2
  exact ⟨none, 0, _, rfl, Bys.nil _ _ _, rfl⟩
theorem vout_ok {bs : List Nat} (h : RWtr w g F (bs, 0)) : Calls Tryd.prog 9 #[.pointer (some ⟨g, 0, none⟩)] w (VOut bs 0 w) := by
  have a1 : w.cell? ⟨g, 1, none⟩ = some (.int .i64 0) := h.err
  obtain ⟨v, h1, h2, _⟩ := h.row
  obtain ⟨A0, c0, rfl, _, _, _, hb⟩ := owns_any h2 h.bytes
  have HB := Lib.hid hb
  have h1 : w.cell? ⟨g, 0, none⟩ = some (.slice A0 bs.length c0) := h1
  clear h h2 hb
  generalize hn : bs.length = N at *
  have HN := Lib.hid hn
  clear hn
  go_enter Tryd.func9, Tryd.ntmps9
  go_wp2
  go_ret2
  exact ⟨A0, c0, 0, by rw [HN.out]; rfl, HB.out, rfl⟩
/-- The reference's OUT. -/
theorem vout_any (h : RWtr w g F s) : Calls Tryd.prog 9 #[.pointer (some ⟨g, 0, none⟩)] w (VOut (if s.2 = 0 then s.1 else []) s.2 w) := by
  by_cases hs : s.2 = 0
  · obtain ⟨bs, e0⟩ := s
    simp only at hs
    subst hs
    exact vout_ok h
  · rw [if_neg hs]; exact vout_bad h hs
end
end Go.Proofs.YthnndklaefnpcaaDoor
