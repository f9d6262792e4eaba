/-
  FieldBack: the walk. Conditions: the slice holds its items; the table of widths stands in its variable.
-/
import Derived.Test.YthnndklaefnpcaaDoorFdLawWrite
import Derived.Test.YthnndklaefnpcaaDoorFdLawRead
namespace Go.Proofs.YthnndklaefnpcaaDoor
open Go.RowKit Arr Fld

/-- The law answers true; nothing that was there has changed. -/
def TrueC (w : World) (e : Ending) (w' : World) : Prop := e = .returned (.bool true) ∧ Below w.heap.size w w'
theorem Items.more {w : World} {B B' : Nat} {A : Option Addr} {its : List It} (h : Items w B A its) (hB : B ≤ B') : Items w B' A its :=
  ⟨fun hp => by obtain ⟨b, off, e, h1, h2⟩ := h.cells hp; exact ⟨b, off, e, Nat.lt_of_lt_of_le h1 hB, h2⟩, fun i hi => ⟨(h.each i hi).1, (h.each i hi).2.1, (h.each i hi).2.2.more hB⟩⟩
theorem run_func (fn : Fn) (first cap : Array Value) (w : World) : (Instr.makeFunc fn first cap).run Tryd.prog w = .ok (.func fn first cap) w := rfl

/-- What the closure answers. -/
def ReadC (x : Nat) (b : Bool) (w : World) (en : Ending) (w' : World) : Prop := en = .returned (.tuple #[.int .i64 (x : Int), .bool b]) ∧ Below w.heap.size w w'
/-- What stays from the beginning on: the items, the captured variable, the table. -/
structure Stay (w0 : World) (gl : Nat) (A : Option Addr) (N c : Nat) (its : List It) (w : World) : Prop where
  bel : Below w0.heap.size w0 w
  cap : w.cell? ⟨gl, 0, none⟩ = some (.slice A N c)
  items : Items w w.heap.size A its
  tab : Tab w 0
theorem Stay.later {w0 w w' : World} {gl : Nat} {A : Option Addr} {N c : Nat} {its : List It} (h : Stay w0 gl A N c its w) (hb : Below w.heap.size w w') : Stay w0 gl A N c its w' :=
  ⟨h.bel.trans (hb.mono h.bel.size), (hb.cell (p := ⟨gl, 0, none⟩) (lt_of_cell h.cap)).trans h.cap, (h.items.below hb).more hb.size, h.tab.below hb h.tab.lt⟩
theorem Stay.begin {w : World} {A : Option Addr} {N c : Nat} {its : List It} (h : Items w w.heap.size A its) (ht : Tab w 0) : Stay w w.heap.size A N c its (w.alloc (.cells #[.slice A N c] 22)) := by
  have hba := below_alloc w (.cells #[.slice A N c] 22)
  have hlast := heap_alloc_last w (.cells #[.slice A N c] 22)
  exact ⟨hba, by rw [cell_of_row _ _ _ _ _ _ hlast]; rfl, (h.below hba).more hba.size, ht.below hba ht.lt⟩

set_option maxRecDepth 10000 in
set_option maxHeartbeats 2000000 in
theorem back_walk (its : List It) (A : Option Addr) (c : Nat) (w : World) (ht : Tab w 0) (h : Items w w.heap.size A its) (hs : its.length ≤ 9223372036854775807) :
    Calls Tryd.prog 4 #[.slice A its.length c] w (TrueC w) := by
  obtain ⟨N, hN⟩ : ∃ N, N = its.length := ⟨_, rfl⟩
  have HN := Lib.hid hN
  rw [← hN] at hs ⊢
  have S0 := Lib.hid (Stay.begin (N := N) (c := c) h ht)
  have C := Lib.hid (awake_any _ S0.out.tab)
  have hmf := run_func
  clear h ht hN
  go_enter Tryd.func4, Tryd.ntmps4
  go_wp2_with fail
  refine C.out.mono ?_
  rintro en w1 ⟨rfl, hB1⟩
  have S1 := Lib.hid (S0.out.later hB1)
  clear hB1 C S0
  go_wp2_with fail
  refine (wnumber_nil _ _ _).mono ?_
  rintro en w' ⟨rfl, rfl⟩
  go_wp2_with fail
  refine (wbytes_nil _ _ _ _).mono ?_
  rintro en w' ⟨rfl, rfl⟩
  go_wp2_with fail
  refine (wfixed_nil _ _).mono ?_
  rintro en w' ⟨rfl, rfl⟩
  go_wp2_with fail
  refine (wout_nil _).mono ?_
  rintro en w' ⟨rfl, rfl⟩
  go_wp2_with fail
  refine (rdone_nil _).mono ?_
  rintro en w' ⟨rfl, rfl⟩
  go_wp2_with fail
  refine (rnumber_nil _ _ _).mono ?_
  rintro en w' ⟨rfl, rfl⟩
  go_wp2_with fail
  refine (rbytes_nil _ _).mono ?_
  rintro en w' ⟨rfl, rfl⟩
  go_wp2_with fail
  refine (rfixed_nil _ _).mono ?_
  rintro en w' ⟨rfl, rfl⟩
  have cp1 := S1.out.cap
  have D := Lib.hid (few_any w1 A c N its HN.out.symm S1.out.items hs)
  go_wp2_with fail
  refine D.out.mono ?_
  rintro en w2 ⟨b, rfl, hbf, hB2⟩
  have S2 := Lib.hid (S1.out.later hB2)
  have HBF := Lib.hid hbf
  clear hB2 hbf D S1 cp1
  cases b with
  | false =>
    go_wp2
    go_ret
    exact ⟨rfl, S2.out.bel⟩
  | true =>
    have hf : Few its := HBF.out.1 rfl
    have HF := Lib.hid hf
    have E := Lib.hid (write_any w2 A c N its HN.out.symm S2.out.items hf S2.out.tab)
    have cp2 := S2.out.cap
    clear hf
    go_wp2_with fail
    refine E.out.mono ?_
    rintro en w3 ⟨g, g2, F, F2, rfl, W1, _, _, _, _, hB3⟩
    have S3 := Lib.hid (S2.out.later hB3)
    have O1 := Lib.hid (wout_any W1 (by have := wAll_all HF.out; omega))
    clear W1 hB3 E S2 cp2
    go_wp2_with fail
    refine O1.out.mono ?_
    rintro en w4 ⟨v, rfl, ⟨A1, c1, rfl, hc1, hA1, hb1, _⟩, hB4⟩
    have S4 := Lib.hid (S3.out.later hB4)
    clear hB4 O1 S3
    by_cases hx : (wAll its).2 = 0
    · have ho : outB (wAll its) = (wAll its).1 := by unfold outB; rw [if_pos hx]
      have hlen := wAll_all HF.out
      rw [ho] at hb1 hc1 ⊢
      rw [hx]
      clear ho
      have hb4 := S4.out.tab
      have HB1 := Lib.hid hb1
      have HA1 := Lib.hid hA1
      have HX := Lib.hid hx
      obtain ⟨M, hM⟩ : ∃ M, M = (wAll its).1.length := ⟨_, rfl⟩
      have HM := Lib.hid hM
      rw [← hM] at hlen hc1 ⊢
      have cp4 := S4.out.cap
      have R1 : Go.RowKit.Hid (Calls Tryd.prog 18 #[.slice A1 M c1, .pointer (some ⟨w.heap.size, 0, none⟩)] w4 (ReadC 0 true w4)) := Lib.hid (by
        have := read_walk w4 w.heap.size A N c its HN.out.symm S4.out.cap S4.out.items HF.out A1 M c1 (wAll its).1 HM.out.symm (by omega) HB1.out S4.out.tab
        have e := read_back HX.out []
        rw [List.append_nil] at e
        rw [e] at this
        exact this)
      have R2 : Go.RowKit.Hid (∀ w', Stay w w.heap.size A N c its w' → ∀ A7 c7, Bys w' w'.heap.size A7 ((wAll its).1 ++ [0]) → Calls Tryd.prog 18 #[.slice A7 (M + 1) c7, .pointer (some ⟨w.heap.size, 0, none⟩)] w' (ReadC 13 true w')) := Lib.hid (fun w' hS A7 c7 hb7 => by
        have := read_walk w' w.heap.size A N c its HN.out.symm hS.cap hS.items HF.out A7 (M + 1) c7 ((wAll its).1 ++ [0]) (by rw [List.length_append, ← HM.out]; rfl) (by omega) hb7 hS.tab
        rw [read_back HX.out [0]] at this
        exact this)
      have R3 : Go.RowKit.Hid (0 < M → ∀ w', Stay w w.heap.size A N c its w' → Bys w' w'.heap.size (cutA A1 c1 0) ((wAll its).1.dropLast) → ∃ b, Calls Tryd.prog 18 #[.slice (cutA A1 c1 0) (M - 1) c1, .pointer (some ⟨w.heap.size, 0, none⟩)] w' (ReadC 10 b w')) := Lib.hid (fun hM0 w' hS hb7 => by
        have := read_walk w' w.heap.size A N c its HN.out.symm hS.cap hS.items HF.out (cutA A1 c1 0) (M - 1) c1 ((wAll its).1.dropLast) (by rw [List.length_dropLast, ← HM.out]) (by omega) hb7 hS.tab
        have e := read_lack HX.out (by rw [← HM.out]; exact hM0)
        refine ⟨(rAll its ((wAll its).1.dropLast, 0)).2, ?_⟩
        rw [← e]
        exact this)
      have HDL := Lib.hid (show 0 < M → (wAll its).1.dropLast = (wAll its).1.take (M - 1) from fun _ => by rw [List.dropLast_eq_take, HM.out])
      clear hb4 hb1 hA1 hx hM HBF HX HN
      generalize (wAll its).1 = bs at *
      go_wp2_with fail
      refine R1.out.mono ?_
      rintro en w5 ⟨rfl, hB5⟩
      have S5 := Lib.hid (S4.out.later hB5)
      have HB5 := Lib.hid ((HB1.out.below hB5).more hB5.size)
      have cp5 := S5.out.cap
      clear hB5 R1 S4 cp4
      have EO := Lib.hid (empty_owns w5)
      have BA := Lib.hid (below_alloc w5 (.cells #[] 5))
      have hsz5 : (w5.alloc (.cells #[] 5)).heap.size = w5.heap.size + 1 := by simp
      have HBA := Lib.hid ((HB5.out.below BA.out).more BA.out.size)
      have HMM := Lib.hid (show 0 + M ≤ 4294967296 by omega)
      have HMN := Lib.hid (show 0 + M + 1 ≤ 4294967296 by omega)
      have HLE := Lib.hid BA.out.size
      clear hsz5
      go_wp2_with (first
        | (at_builtin; refine list_foot rfl (.tmp 80) (.tmp 81) 29 rfl w5.heap.size 5 Tryd.underlying29 info_u8 (.slice (some ⟨w5.heap.size, 0, none⟩) 0 0) 0 [] rfl EO.out A1 M c1 bs rfl HA1.out HM.out.symm HBA.out HMM.out HLE.out ?_
           intro v6 w6 hown6 hgr6 hat6
           have B6 := Lib.hid (BA.out.grown hgr6 HLE.out (fun k hk => (EO.out.lt k hk).1))
           have O6 := Lib.hid (hown6.alloc (.cells (na .u8 [0]) 5))
           have X6 := Lib.hid (lit_bys w6 [0] (by decide))
           have B6a := Lib.hid (B6.out.trans ((below_alloc w6 (.cells (na .u8 [0]) 5)).mono B6.out.size))
           have X6a := Lib.hid (X6.out.more (B' := (w6.alloc (.cells (na .u8 [0]) 5)).heap.size) (by simp))
           clear hown6 hgr6 hat6 EO BA HBA)
        | (at_builtin; refine list_foot rfl (.tmp 82) (.tmp 83) 29 rfl w5.heap.size 5 Tryd.underlying29 info_u8 v6 (0 + M) ([] ++ bs) rfl O6.out (some ⟨w6.heap.size, 0, none⟩) 1 1 [0] rfl (fun h => by cases h) rfl X6a.out HMN.out B6a.out.size ?_
           intro v7 w7 hown7 hgr7 hat7
           have B7 := Lib.hid (B6a.out.grown hgr7 B6a.out.size (fun k hk => (O6.out.lt k hk).1))
           have S7 := Lib.hid (S5.out.later B7.out)
           obtain ⟨A7, c7, rfl, hc7, hA7, hl7, hb7⟩ := owns_any hown7 (by intro x hx; rw [List.nil_append] at hx; exact (List.mem_append.1 hx).elim (HB1.out.1 x) (fun h => by simp at h; omega))
           rw [List.nil_append] at hb7
           have C7 := Lib.hid (R2.out w7 S7.out A7 c7 hb7)
           have HN7 := Lib.hid (show 0 + M + 1 = M + 1 by omega)
           clear hown7 hgr7 hat7 hc7 hA7 hl7 hb7 O6 X6 X6a B6 B6a)
        | fail)
      refine C7.out.mono ?_
      rintro en w8 ⟨rfl, hB8⟩
      have S8 := Lib.hid (S7.out.later hB8)
      have HB8 := Lib.hid (((HB5.out.below B7.out).more B7.out.size).below hB8 |>.more hB8.size)
      clear hB8 C7 R2 S7 B7 HB5 cp5 S5 HN7 HMM HMN HLE
      by_cases hM0 : M = 0
      · have tM : ((M : Int) == 0) = true := by simp; omega
        go_wp2
        go_ret
        exact ⟨rfl, S8.out.bel⟩
      · have tM : ((M : Int) == 0) = false := by simp; omega
        obtain ⟨M1, hM1⟩ : ∃ M1, M1 = M - 1 := ⟨_, rfl⟩
        have wM : IntKind.i64.wrap ((M : Int) - 1) = (M1 : Int) := by rw [IntKind.wrap_i64]; omega
        have RL := run_cut_h A1 M c1 M1 (by omega)
        have hcut := bys_cut HB8.out c1 (by rw [← HM.out]; exact hc1) 0 M1 (Nat.zero_le _) (by rw [← HM.out]; omega)
        rw [List.drop_zero, Nat.sub_zero, hM1, ← HDL.out (by omega)] at hcut
        obtain ⟨b9, h9⟩ := R3.out (by omega) w8 S8.out hcut
        rw [← hM1] at h9
        have C9 := Lib.hid h9
        clear hcut h9 hM1 R3 HB8
        generalize cutA A1 c1 0 = A9 at *
        go_wp2_with fail
        refine C9.out.mono ?_
        rintro en w9 ⟨rfl, hB9⟩
        have S9 := Lib.hid (S8.out.later hB9)
        clear hB9 C9
        go_wp2
        go_ret
        exact ⟨rfl, S9.out.bel⟩
    · have ho : outB (wAll its) = [] := by unfold outB; rw [if_neg hx]
      rw [ho]
      have tX : (((wAll its).2 : Int) != 0) = true := by simp; omega
      generalize (wAll its).2 = x at *
      clear hb1 hc1 hA1 hx ho
      rw [List.length_nil]
      go_wp2
      go_ret
      exact ⟨rfl, S4.out.bel⟩
end Go.Proofs.YthnndklaefnpcaaDoor
