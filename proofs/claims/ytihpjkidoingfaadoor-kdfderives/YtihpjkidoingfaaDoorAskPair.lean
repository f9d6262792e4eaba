/-
  What a law over a key, a label, a number and contexts holds in memory: the struct that came in, in its block; few contexts have few bytes. No conditions.
  Contracts of kdf.Derive (both ways in one) and kdf.Pair. Conditions: as Derive's.
-/
import Derived.Test.YtihpjkidoingfaaDoorKdFew
import Derived.Test.YtihpjkidoingfaaDoorKdNumbersWalk
import Derived.Test.YtihpjkidoingfaaDoorWCut
namespace Go.Proofs.YtihpjkidoingfaaDoor.Arr
open Go.ChangeShapes Go.WideShapes Go.ChangeAt Go.RowKit
/-- A whole struct is read. -/
theorem load_hv {P : Program} {t : TypeId} {ops : Array Oper} {rest : List Oper} {dst : Option Tmp} {ty : TypeId} {pos : String} {after : Array Edge} {x : Operand} {a : Act} {w : World} {Q : Exit → Act → World → Prop} {d : TypeDesc} (hu : P.underlying t = some d) (hd : d.isRow = true) (g : Nat) (vs : List Value) (hi : (P.info? t).map (·.size) = some vs.length) (hb : HV w g vs)
    (hx : a.eval x = .pointer (some ⟨g, 0, none⟩)) (h : wpList P ops Q rest (a.put dst (.agg vs.toArray)) w) : wpList P ops Q ({ dst := dst, op := .load t x, type := ty, pos := pos, after := after, guard := none } :: rest) a w :=
  wpList_load_mid rfl _ x rfl g 0 hx vs _ hb.1 hu hd hi h
end Go.Proofs.YtihpjkidoingfaaDoor.Arr
namespace Go.Proofs.YtihpjkidoingfaaDoor
open Go.RowKit Arr Sh Hm Kd

theorem infoAsk : (Tryd.prog.info? 25).map (·.size) = some 4 := by kernel_rfl
theorem length_ctx_le : ∀ cs : List (List Nat), (∀ i (h : i < cs.length), cs[i].length ≤ 100) → (ctx cs).length ≤ 108 * cs.length
  | [], _ => by simp [ctx]
  | c :: cs, h => by
    have ih := length_ctx_le cs (fun i hi => by have := h (i + 1) (by simp; omega); simpa using this)
    have h0 := h 0 (by simp)
    simp only [List.getElem_cons_zero] at h0
    have e : ctx (c :: cs) = (bytesOf c.length 8 ++ c) ++ ctx cs := by simp [ctx]
    rw [e, List.length_append, List.length_append, length_bytesOf, List.length_cons]
    omega
theorem BysN.bys {w : World} {g : Nat} {A : Option Addr} {bs : List Nat} (h : BysN w g A bs) : Bys w w.heap.size A bs :=
  ⟨h.1, fun hl => by obtain ⟨b, off, e, h1, _, hc⟩ := h.2 hl; exact ⟨b, off, e, h1, hc⟩⟩
/-- A row that the call owns lies beside what was there. -/
theorem own_beside {w : World} {base e n g : Nat} {v : Value} {bs : List Nat} (h : w.ownsRow base e 1 v n (vals .u8 bs)) (hb : ∀ x, x ∈ bs → x < 256) (hg : g < base) :
    ∃ A c, v = .slice A n c ∧ BysN w g A bs := by
  have hl : bs.length = n := by have := h.1; simpa [vals] using this
  rcases Nat.eq_zero_or_pos n with h0 | h0
  · subst h0
    obtain rfl : bs = [] := List.eq_nil_of_length_eq_zero hl
    rcases h.2 with ⟨rfl, _⟩ | ⟨g', cap, cur, rfl, _⟩
    · exact ⟨_, _, rfl, hb, fun hp => by simp at hp⟩
    · exact ⟨_, _, rfl, hb, fun hp => by simp at hp⟩
  · obtain ⟨g', cap, rfl, hbg, hlt⟩ := h.form h0
    refine ⟨_, _, rfl, hb, fun _ => ⟨g', 0, rfl, hlt, by omega, fun i hi => ?_⟩⟩
    rw [Nat.zero_add, h.cellAt i (by omega), vals_get .u8 bs i hi]
end Go.Proofs.YtihpjkidoingfaaDoor
namespace Go.Proofs.YtihpjkidoingfaaDoor
open Go.RowKit Arr Sh Hm Kd

/-- The derived key, or nothing. -/
def derL (ks lab : List Nat) (cs : List (List Nat)) (n : Int) : List Nat := if derErr ks.length lab n = 0 then der ks lab cs n.toNat else []
theorem derL_lt (ks lab : List Nat) (cs : List (List Nat)) (n : Int) : ∀ x, x ∈ derL ks lab cs n → x < 256 := by
  intro x hx
  unfold derL at hx
  split at hx
  · exact der_lt _ _ _ _ x hx
  · cases hx
theorem derL_le (ks lab : List Nat) (cs : List (List Nat)) (n : Int) : (derL ks lab cs n).length ≤ 128 := by
  unfold derL
  split
  · rw [der, List.length_take]; have := length_kf ks lab cs n.toNat; omega
  · exact Nat.zero_le _
/-- What is left by a call that derives a key: its bytes, or none and why. -/
def DerU (l : List Nat) (m x : Nat) (w : World) (e : Ending) (w' : World) : Prop :=
  ∃ A c, e = .returned (.tuple #[.slice A m c, .int .i64 (x : Int)]) ∧ m ≤ c ∧ Bys w' w'.heap.size A l ∧ Below w.heap.size w w'
theorem derive_u (ks : List Nat) (K : Option Addr) (n0 d0 : Nat) (hl : ks.length = n0) (hd0 : n0 ≤ d0) (hn0 : n0 ≤ 100) (s : ByteArray) (n : Int) (ps : List Pt) (A : Option Addr) (N c : Nat) (hN : ps.length = N) (hN2 : N ≤ 8) (hT : ∀ i (h : i < ps.length), ps[i].bs.length ≤ 100) (hs : s.size ≤ 100)
    (w : World) (hb : Bys w w.heap.size K ks) (hp : Parts w w.heap.size A ps) (hv : VarsS w) :
    Calls Tryd.prog 8 #[.slice K n0 d0, .string s, .int .i64 n, .slice A N c] w (DerU (derL ks (labOf s) (ps.map (·.bs)) n) (derL ks (labOf s) (ps.map (·.bs)) n).length (derErr n0 (labOf s) n) w) := by
  by_cases he : derErr n0 (labOf s) n = 0
  · obtain ⟨h1, h2, h3, h4, h5⟩ := derErr_zero he
    obtain ⟨m, rfl⟩ := Int.eq_ofNat_of_zero_le (show 0 ≤ n by omega)
    have hcx := length_ctx_le (ps.map (·.bs)) (fun i hi => by have hi' : i < ps.length := by simpa using hi
                                                              have := hT i hi'; simpa using this)
    rw [List.length_map, hN] at hcx
    have e1 : derL ks (labOf s) (ps.map (·.bs)) (m : Int) = der ks (labOf s) (ps.map (·.bs)) m := by
      unfold derL; rw [hl, if_pos he, Int.toNat_natCast]
    have e2 := length_der ks (labOf s) (ps.map (·.bs)) m (by omega)
    rw [e1, he, e2]
    refine (derive_some ks K n0 d0 hl hd0 (by omega) s m he ps A N c hN (by omega) (fun i hi => by have := hT i hi; omega) (by omega) w hb hp hv).mono ?_
    rintro e w' ⟨g, rfl, hg, hH, hB⟩
    exact ⟨_, _, rfl, Nat.le_refl _, bys_of_holds hH (der_lt _ _ _ _), hB⟩
  · have e1 : derL ks (labOf s) (ps.map (·.bs)) n = [] := by unfold derL; rw [hl, if_neg he]
    rw [e1]
    refine (derive_none K n0 d0 s n A N c _ rfl he w).mono ?_
    rintro e w' ⟨rfl, rfl⟩
    exact ⟨_, _, rfl, Nat.le_refl _, Bys.nil _ _ _, Below.refl _ _⟩

def PairNone (x : Nat) (w : World) (e : Ending) (w' : World) : Prop := e = .returned (.tuple #[.slice none 0 0, .slice none 0 0, .int .i64 (x : Int)]) ∧ w = w'
def PairSome (l : List Nat) (w : World) (e : Ending) (w' : World) : Prop :=
  ∃ A1 c1 A2 c2, e = .returned (.tuple #[.slice A1 32 c1, .slice A2 32 c2, .int .i64 0]) ∧ Bys w' w'.heap.size A1 (l.take 32) ∧ Bys w' w'.heap.size A2 (l.drop 32) ∧ Below w.heap.size w w'
theorem pair_none (K : Option Addr) (n0 d0 : Nat) (s : ByteArray) (A : Option Addr) (N c : Nat) (x : Nat) (hx : derErr n0 (labOf s) 64 = x) (hx0 : x ≠ 0) (w : World) :
    Calls Tryd.prog 10 #[.slice K n0 d0, .string s, .slice A N c] w (PairNone x w) := by
  have CD := Lib.hid (derive_none K n0 d0 s 64 A N c x hx hx0 w)
  have tx : ((x : Int) != 0) = true := by rw [bne_iff_ne]; omega
  clear hx hx0
  go_enter Tryd.func10, Tryd.ntmps10
  go_wp2_with fail
  refine CD.out.mono ?_
  rintro e w4 ⟨rfl, rfl⟩
  go_wp2
  go_ret3
  exact ⟨rfl, rfl⟩
theorem pair_some (ks : List Nat) (K : Option Addr) (n0 d0 : Nat) (hl : ks.length = n0) (hd0 : n0 ≤ d0) (hn0 : n0 ≤ 100) (s : ByteArray) (he : derErr n0 (labOf s) 64 = 0) (ps : List Pt) (A : Option Addr) (N c : Nat) (hN : ps.length = N) (hN2 : N ≤ 8) (hT : ∀ i (h : i < ps.length), ps[i].bs.length ≤ 100) (hs : s.size ≤ 100)
    (w : World) (hb : Bys w w.heap.size K ks) (hp : Parts w w.heap.size A ps) (hv : VarsS w) :
    Calls Tryd.prog 10 #[.slice K n0 d0, .string s, .slice A N c] w (PairSome (der ks (labOf s) (ps.map (·.bs)) 64) w) := by
  have hcx := length_ctx_le (ps.map (·.bs)) (fun i hi => by have hi' : i < ps.length := by simpa using hi
                                                            have := hT i hi'; simpa using this)
  rw [List.length_map, hN] at hcx
  have CD : Go.RowKit.Hid (Calls Tryd.prog 8 #[.slice K n0 d0, .string s, .int .i64 64, .slice A N c] w (DeriveSome (der ks (labOf s) (ps.map (·.bs)) 64) 64 w)) :=
    Lib.hid (derive_some ks K n0 d0 hl hd0 (by omega) s 64 he ps A N c hN (by omega) (fun i hi => by have := hT i hi; omega) (by omega) w hb hp hv)
  have LD := Lib.hid (length_der ks (labOf s) (ps.map (·.bs)) 64 (by omega))
  have LT := Lib.hid (der_lt ks (labOf s) (ps.map (·.bs)) 64)
  clear hcx hl hd0 hn0 he hN hN2 hT hs hb hp hv
  generalize der ks (labOf s) (ps.map (·.bs)) 64 = dl at *
  go_enter Tryd.func10, Tryd.ntmps10
  go_wp2_with fail
  refine CD.out.mono ?_
  rintro e w4 ⟨g, rfl, hg, hH, hB⟩
  have CC : Go.RowKit.Hid (Calls Tryd.prog 18 #[.slice (some ⟨g, 0, none⟩) 64 64, .int .i64 32] w4 (CutSome dl 32 w4)) := Lib.hid (cut_some (some ⟨g, 0, none⟩) 64 64 32 dl LD.out (by omega) (Nat.le_refl _) (fun h => by cases h) (by omega) w4 (bys_of_holds hH LT.out))
  have HB := Lib.hid hB
  clear hg hH hB CD
  go_wp2_with fail
  refine CC.out.mono ?_
  rintro e w5 ⟨A1, c1, A2, c2, rfl, _, _, hY1, hY2, hB5⟩
  rw [LD.out]
  have HR := Lib.hid (And.intro hY1 (And.intro hY2 (HB.out.trans (hB5.mono HB.out.size))))
  clear hY1 hY2 hB5 HB CC
  go_wp2
  go_ret3
  exact ⟨A1, c1, A2, c2, rfl, HR.out.1, HR.out.2.1, HR.out.2.2⟩
end Go.Proofs.YtihpjkidoingfaaDoor
