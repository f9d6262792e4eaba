/-
  Own lemmas on rows that a call makes: appending one element, and a row of bytes read as bytes. No conditions.
  Own lemma on rows of bytes that a call makes: appending many bytes. No conditions.
  Contracts of bytes.Clone and word.Cut, for seats with W32. No conditions.
  A row of numbers that the call owns, as an array is held (Arr). No program is named here; no conditions.
  Contracts of slices.Clone, slices.Grow of nil, slices.Concat of two: a new text. Conditions: the slices hold their bytes.
-/
import Derived.Test.YtonoidhlbnbhcaaDoorBytes
import Derived.Deep.AppendLies
import Derived.OwnWalk
import Derived.Laws.AppendOwnNone
import Derived.Test.YtonoidhlbnbhcaaDoorWordAll
import Derived.Lib.SliceRun
import Derived.Deep.RegionWith
import Derived.Test.YtonoidhlbnbhcaaDoorArrAll
import Derived.Lib.AppendZeros
namespace Go.Proofs.YtonoidhlbnbhcaaDoor
open Go.RowKit

/-- Numbers as values of one kind. -/
def vals (k : IntKind) (l : List Nat) : List Value := l.map fun (z : Nat) => Value.int k (z : Int)
theorem vals_nil (k : IntKind) : vals k [] = [] := rfl
theorem vals_snoc (k : IntKind) (l : List Nat) (c : Nat) : vals k (l ++ [c]) = vals k l ++ [.int k (c : Int)] := by simp [vals]
theorem vals_get (k : IntKind) (l : List Nat) (i : Nat) (h : i < l.length) : (vals k l)[i]? = some (.int k ((l.getD i 0 : Nat) : Int)) := by simp [vals, h]

/-- One element more: 'v = append(v, u)', v a row of the call's own, the element's type of one cell. -/
theorem append_one {P : Program} {w : World} {ops : Array Oper} {rest : List Oper} {o : Oper} {a : Act} {Q : Exit → Act → World → Prop} (hgd : o.guard = none) (s x : Operand) (t : TypeId)
    (ho : o.op = .call { callee := .builtin .append, args := #[s, x], argTypes := #[t, t] })
    (base : Nat) (e : TypeId) (z : Value) (bytes : Nat) (ht : P.underlying t = some (.slice e)) (hinfo : (P.info? e).map (fun i => (i.zero, i.size, i.bytes)) = some (some z, 1, bytes)) (hzs : z.cells.size = 1)
    (v : Value) (n : Nat) (xs : List Value) (u : Value) (hs : a.eval s = v) (hown : w.ownsRow base e 1 v n xs) (hx : a.eval x = .slice (some ⟨w.heap.size, 0, none⟩) 1 1)
    (hu : u.oneCell' = true) (hn : n ≤ 4294967296) (hby : bytes ≤ 64) (hbase : base ≤ w.heap.size)
    (h : ∀ v' w', w'.ownsRow base e 1 v' (n + 1) (xs ++ [u]) → Below base w w' → wpList P ops Q rest (a.put o.dst v') w') : wpList P ops Q (o :: rest) a (w.alloc (.cells #[u] e)) := by
  obtain ⟨i0, hi, hz0, hz1, hz2⟩ := info_parts hinfo
  have hmul : (n + 1) * bytes ≤ 4294967297 * 64 := Nat.mul_le_mul (by omega) hby
  refine wpList_append_own _ hgd s x t ho base e i0 z 1 bytes ht hi hz0 hz1 hz2 hzs (by decide) v n xs hs (hown.alloc _) ⟨w.heap.size, 0, none⟩ 1 1 [u] hx rfl ?_ ?_ ?_ ?_ ?_ ?_
  · intro j y hj
    match j, hj with
    | 0, hj => simp at hj; subst hj; simp [Addr.add]
    | j + 1, hj => simp at hj
  · intro y hy; simp at hy; subst hy; exact hu
  · unfold maxLen; omega
  · omega
  · simp; omega
  · intro v' w' h1 h2 _
    exact h v' w' h1 (((Below.refl base w).alloc hbase _).grown h2 (by simp; omega) (fun k hk => (hown.lt k hk).1))

/-- A row of bytes that the call owns reads as its bytes. -/
theorem bys_of_owns {w : World} {base e n : Nat} {v : Value} {bs : List Nat} (h : w.ownsRow base e 1 v n (vals .u8 bs)) (hb : ∀ x, x ∈ bs → x < 256) :
    ∃ A c, v = .slice A n c ∧ bs.length = n ∧ Bys w w.heap.size A bs := by
  have hl : bs.length = n := by have := h.1; simpa [vals] using this
  rcases Nat.eq_zero_or_pos n with h0 | h0
  · subst h0
    obtain rfl : bs = [] := List.eq_nil_of_length_eq_zero hl
    rcases h.2 with ⟨rfl, _⟩ | ⟨g, cap, cur, rfl, _⟩
    · exact ⟨_, _, rfl, rfl, Bys.nil _ _ _⟩
    · exact ⟨_, _, rfl, rfl, Bys.nil _ _ _⟩
  · obtain ⟨g, cap, rfl, _, hlt⟩ := h.form h0
    refine ⟨_, _, rfl, hl, hb, fun _ => ⟨g, 0, rfl, hlt, fun i hi => ?_⟩⟩
    rw [Nat.zero_add, h.cellAt i (by omega), vals_get .u8 bs i hi]

/-- A row of numbers that the call owns, its cells. -/
theorem cells_of_owns {w : World} {base e n : Nat} {v : Value} {k : IntKind} {l : List Nat} (h : w.ownsRow base e 1 v n (vals k l)) (hn : 0 < n) :
    ∃ g c, v = .slice (some ⟨g, 0, none⟩) n c ∧ g < w.heap.size ∧ ∀ i, i < n → w.cell? ⟨g, i, none⟩ = some (.int k ((l.getD i 0 : Nat) : Int)) := by
  have hl : l.length = n := by have := h.1; simpa [vals] using this
  obtain ⟨g, cap, rfl, _, hlt⟩ := h.form hn
  refine ⟨g, cap, rfl, hlt, fun i hi => ?_⟩
  rw [h.cellAt i (by omega), vals_get k l i (by omega)]
end Go.Proofs.YtonoidhlbnbhcaaDoor
namespace Go.Proofs.YtonoidhlbnbhcaaDoor
open Go.RowKit

/-- Many bytes more: 'v = append(v, x...)', v a row of bytes of the call's own, x whatever slice of bytes. -/
theorem append_bys {P : Program} {w : World} {ops : Array Oper} {rest : List Oper} {o : Oper} {a : Act} {Q : Exit → Act → World → Prop} (hgd : Region.wanted o (yielded ops a.tmps) = true) (s x : Operand) (t : TypeId)
    (ho : o.op = .call { callee := .builtin .append, args := #[s, x], argTypes := #[t, t] })
    (base : Nat) (e : TypeId) (ht : P.underlying t = some (.slice e)) (hinfo : (P.info? e).map (fun i => (i.zero, i.size, i.bytes)) = some (some (.int .u8 0), 1, 1))
    (v : Value) (n : Nat) (xs : List Nat) (hs : a.eval s = v) (hown : w.ownsRow base e 1 v n (vals .u8 xs))
    (A : Option Addr) (m c : Nat) (bs : List Nat) (hx : a.eval x = .slice A m c) (hc : A = none → c = 0) (hl : bs.length = m) (B : Nat) (hb : Bys w B A bs)
    (hn : n + m ≤ 4294967296) (hbase : base ≤ w.heap.size) (hv : v ≠ .slice none 0 0)
    (h : ∀ v' w', w'.ownsRow base e 1 v' (n + m) (vals .u8 (xs ++ bs)) → v' ≠ .slice none 0 0 → Below base w w' → wpList P ops Q rest (a.put o.dst v') w') : wpList P ops Q (o :: rest) a w := by
  obtain ⟨i0, hi, hz0, hz1, hz2⟩ := info_parts hinfo
  have hva : vals .u8 (xs ++ bs) = vals .u8 xs ++ vals .u8 bs := by simp [vals]
  refine wpList_step fun K hK => ?_
  rw [if_pos hgd]
  have goal : ∃ v' w', (Builtin.append_ #[t, t] o.type #[v, .slice A m c]).run P w = .ok v' w' ∧ w'.ownsRow base e 1 v' (n + m) (vals .u8 (xs ++ bs)) ∧ v' ≠ .slice none 0 0 ∧ Below base w w' := by
    rcases A with _ | ad
    · have hm : bs = [] := by
        rcases Nat.eq_zero_or_pos bs.length with h0 | h0
        · exact List.eq_nil_of_length_eq_zero h0
        · obtain ⟨_, _, he, _⟩ := hb.2 h0; cases he
      subst hm
      obtain rfl : m = 0 := hl.symm
      obtain rfl : c = 0 := hc rfl
      exact ⟨v, w, run_append_owned_none (P := P) (w := w) base t o.type e i0 1 ht hi v n _ hown, by simpa using hown, hv, Below.refl _ _⟩
    · have hnews : ∀ j u, (vals .u8 bs)[j]? = some u → w.cell? (ad.add j) = some u := by
        intro j u hu
        have hj : j < bs.length := by
          rcases Nat.lt_or_ge j bs.length with h1 | h1
          · exact h1
          · rw [List.getElem?_eq_none (by simpa [vals] using h1)] at hu; cases hu
        obtain ⟨b, off, he, _, hcell⟩ := hb.2 (by omega)
        simp only [Option.some.injEq] at he
        subst he
        rw [vals_get .u8 bs j hj] at hu
        simp only [Option.some.injEq] at hu
        subst hu
        have e : Addr.add ⟨b, off, none⟩ j = ⟨b, off + j, none⟩ := by
          unfold Addr.add; split <;> simp_all
        rw [e]; exact hcell j hj
      obtain ⟨v', w', hr, h2, h3, h4⟩ := run_append_own (P := P) w base t o.type e i0 (.int .u8 0) 1 1 ht hi hz0 hz1 hz2 rfl (by decide) v n _ hown ad m c (vals .u8 bs) (by simp [vals, hl]) hnews
        (by intro u hu; simp only [vals, List.mem_map] at hu; obtain ⟨z, _, rfl⟩ := hu; rfl) (by unfold maxLen; omega) (by omega) hbase
      refine ⟨v', w', hr, by rw [hva]; exact h2, fun hnil => hv (h4.1 hnil).1, (Below.refl base w).grown h3 hbase (fun k hk => (hown.lt k hk).1)⟩
  obtain ⟨v', w', hr, h2, h3, h4⟩ := goal
  unfold Oper.wp execOp
  simp only [ho, resolve, invoke, builtin, Sem.run_bind, Sem.run_pure, Result.andThen_ok, List.map_toArray, List.map_cons, List.map_nil, hs, hx, hr]
  exact hK _ _ (h v' w' h2 h3 h4)
end Go.Proofs.YtonoidhlbnbhcaaDoor
namespace Go.Proofs.YtonoidhlbnbhcaaDoor
open Go.RowKit

/-- What a call leaves that makes a slice of the bytes bs. -/
def Cloned (bs : List Nat) (n : Nat) (w : World) (e : Ending) (w' : World) : Prop :=
  ∃ A c, e = .returned (.slice A n c) ∧ (A = none → c = 0) ∧ Bys w' w'.heap.size A bs ∧ Below w.heap.size w w'

theorem owns_form {w : World} {base e n : Nat} {v : Value} {bs : List Nat} (h : w.ownsRow base e 1 v n (vals .u8 bs)) (hb : ∀ x, x ∈ bs → x < 256) (hv : v ≠ .slice none 0 0) :
    ∃ A c, v = .slice A n c ∧ (A = none → c = 0) ∧ Bys w w.heap.size A bs := by
  obtain ⟨A, c, rfl, hl, hb'⟩ := bys_of_owns h hb
  refine ⟨A, c, rfl, fun hA => ?_, hb'⟩
  subst hA
  rcases h.2 with ⟨h1, _⟩ | ⟨g, cap, cur, h1, _⟩
  · exact absurd h1 hv
  · cases h1

theorem clone_nil (n c : Nat) (bs : List Nat) (hl : bs.length = n) (w : World) (B : Nat) (hb : Bys w B none bs) :
    Calls Tryd.prog 44 #[.slice none n c] w (Cloned bs n w) := by
  have hbs : bs = [] := by
    rcases Nat.eq_zero_or_pos bs.length with h0 | h0
    · exact List.eq_nil_of_length_eq_zero h0
    · obtain ⟨_, _, he, _⟩ := hb.2 h0; cases he
  have HBS := Lib.hid hbs
  obtain rfl : n = 0 := by rw [← hl, hbs]; rfl
  have hnil := fun (wx : World) => Lib.run_eql_slice_nil (P := Tryd.prog) wx 22 5 none 0 c 0 0 Tryd.underlying22
  clear hb hbs hl
  go_enter Tryd.func44, Tryd.ntmps44
  go_wp2
  go_ret
  rw [HBS.out]
  exact ⟨none, 0, rfl, fun _ => rfl, Bys.nil _ _ _, Below.refl _ _⟩

theorem empty_owns (w : World) : (w.alloc (.cells #[] 5)).ownsRow w.heap.size 5 1 (.slice (some ⟨w.heap.size, 0, none⟩) 0 0) 0 (vals .u8 []) :=
  World.ownsRow_made w #[] 0 (Nat.le_refl _) (by unfold maxLen; omega) rfl

theorem clone_some (ad : Addr) (n c : Nat) (bs : List Nat) (hl : bs.length = n) (hn : n ≤ 4096) (w : World) (B : Nat) (hB : B ≤ w.heap.size) (hb : Bys w B (some ad) bs) :
    Calls Tryd.prog 44 #[.slice (some ad) n c] w (Cloned bs n w) := by
  have hnil := fun (wx : World) => Lib.run_eql_slice_nil (P := Tryd.prog) wx 22 5 (some ad) n c 0 0 Tryd.underlying22
  have HB := Lib.hid hb; clear hb
  have HL := Lib.hid hl; clear hl
  go_enter Tryd.func44, Tryd.ntmps44
  go_wp2_with (at_builtin; refine append_bys rfl (.tmp 5) (.tmp 6) 22 rfl w.heap.size 5 Tryd.underlying22 info_u8 (.slice (some ⟨w.heap.size, 0, none⟩) 0 0) 0 [] rfl (empty_owns w) (some ad) n c bs rfl (fun h => by cases h) HL.out B (HB.out.below ((Below.refl _ _).alloc hB _)) (by omega) (by simp) (by simp) ?_; intro v' w1 hown hv hbel)
  rw [List.nil_append, Nat.zero_add] at hown
  obtain ⟨A, c', rfl, hA, hb'⟩ := owns_form hown HB.out.1 hv
  have HY := Lib.hid hb'; clear hb' hown
  have HBE := Lib.hid (((Below.refl w.heap.size w).alloc (Nat.le_refl _) (.cells #[] 5)).trans hbel); clear hbel
  have HA := Lib.hid hA; clear hA hv
  go_wp2
  go_ret
  exact ⟨A, c', rfl, HA.out, HY.out, HBE.out⟩

/-- CLONE. -/
theorem clone_any (A : Option Addr) (n c : Nat) (bs : List Nat) (hl : bs.length = n) (hn : n ≤ 4096) (w : World) (B : Nat) (hB : B ≤ w.heap.size) (hb : Bys w B A bs) :
    Calls Tryd.prog 44 #[.slice A n c] w (Cloned bs n w) := by
  cases A with
  | none => exact clone_nil n c bs hl w B hb
  | some ad => exact clone_some ad n c bs hl hn w B hB hb

theorem Bys.take {w : World} {B : Nat} {A : Option Addr} {bs : List Nat} (h : Bys w B A bs) (k : Nat) : Bys w B A (bs.take k) := by
  refine ⟨fun x hx => h.1 x (List.mem_of_mem_take hx), fun hl => ?_⟩
  rw [List.length_take] at hl
  obtain ⟨b, off, e, hb, hc⟩ := h.2 (by omega)
  refine ⟨b, off, e, hb, fun i hi => ?_⟩
  rw [List.length_take] at hi
  have hik : i < k := by omega
  have hil : i < bs.length := by omega
  rw [hc i hil]
  simp [hik, hil]
/-- What is behind the first k bytes, at the address that the model gives it. -/
theorem Bys.behind {w : World} {B : Nat} {A : Option Addr} {bs : List Nat} (h : Bys w B A bs) (k cap : Nat) (hk : k ≤ bs.length) (hc : bs.length ≤ cap) :
    Bys w B (if cap = k then A else A.map (·.add (k * 1))) (bs.drop k) := by
  refine ⟨fun x hx => h.1 x (List.mem_of_mem_drop hx), fun hl => ?_⟩
  rw [List.length_drop] at hl
  obtain ⟨b, off, rfl, hb, hcell⟩ := h.2 (by omega)
  rw [if_neg (by omega)]
  have e : Addr.add ⟨b, off, none⟩ (k * 1) = ⟨b, off + k, none⟩ := by
    rw [Nat.mul_one]; unfold Addr.add; split <;> simp_all
  refine ⟨b, off + k, by simp only [Option.map_some, e], hb, fun i hi => ?_⟩
  rw [List.length_drop] at hi
  have := hcell (k + i) (by omega)
  rw [← Nat.add_assoc] at this
  rw [this]
  simp

def CutNone (w : World) (e : Ending) (w' : World) : Prop := e = .returned (.tuple #[.slice none 0 0, .slice none 0 0, .bool false]) ∧ w = w'
def CutSome (bs : List Nat) (k : Nat) (w : World) (e : Ending) (w' : World) : Prop :=
  ∃ A1 c1 A2 c2, e = .returned (.tuple #[.slice A1 k c1, .slice A2 (bs.length - k) c2, .bool true]) ∧ (A1 = none → c1 = 0) ∧ (A2 = none → c2 = 0) ∧
    Bys w' w'.heap.size A1 (bs.take k) ∧ Bys w' w'.heap.size A2 (bs.drop k) ∧ Below w.heap.size w w'

theorem Bys.eq {w : World} {B : Nat} {A : Option Addr} {bs cs : List Nat} (h : Bys w B A bs) (e : cs = bs) : Bys w B A cs := by rw [e]; exact h
theorem cutSome_mk {bs : List Nat} {k : Nat} {w w' : World} {e : Ending} (A1 : Option Addr) (c1 : Nat) (A2 : Option Addr) (c2 n2 : Nat) (hn : n2 = bs.length - k) (he : e = .returned (.tuple #[.slice A1 k c1, .slice A2 n2 c2, .bool true]))
    (h1 : A1 = none → c1 = 0) (h2 : A2 = none → c2 = 0) (h3 : Bys w' w'.heap.size A1 (bs.take k)) (h4 : Bys w' w'.heap.size A2 (bs.drop k)) (h5 : Below w.heap.size w w') : CutSome bs k w e w' := by
  subst hn
  exact ⟨A1, c1, A2, c2, he, h1, h2, h3, h4, h5⟩

theorem cut_neg (A : Option Addr) (len cap : Nat) (n : Int) (hn : n < 0) (w : World) : Calls Tryd.prog 22 #[.slice A len cap, .int .i64 n] w (CutNone w) := by
  have h1 : decide (n < 0) = true := by simp; omega
  go_enter Tryd.func22, Tryd.ntmps22
  go_wp2
  go_ret3
  exact ⟨rfl, rfl⟩
theorem cut_past (A : Option Addr) (len cap : Nat) (n : Int) (hn0 : 0 ≤ n) (hn : (len : Int) < n) (w : World) : Calls Tryd.prog 22 #[.slice A len cap, .int .i64 n] w (CutNone w) := by
  have h1 : decide (n < 0) = false := by simp; omega
  have h2 : decide ((len : Int) < n) = true := by simp; omega
  go_enter Tryd.func22, Tryd.ntmps22
  go_wp2
  go_ret3
  exact ⟨rfl, rfl⟩

theorem below_undrew {B : Nat} {w w' : World} (h : Below B w.drew w') : Below B w w' := ⟨h.os, h.tape, h.output, h.size, h.block⟩

set_option maxHeartbeats 1000000 in
theorem cut_end (A : Option Addr) (k : Nat) (bs : List Nat) (hl : bs.length = k) (hlen : k ≤ 4096) (w : World) (hb : Bys w w.heap.size A bs) :
    Calls Tryd.prog 22 #[.slice A k k, .int .i64 (k : Int)] w (CutSome bs k w) := by
  have h1 : decide ((k : Int) < 0) = false := by simp
  have h2 : decide ((k : Int) < (k : Int)) = false := by simp
  have HL := Lib.hid hl; clear hl
  have HB := Lib.hid hb; clear hb
  go_enter Tryd.func22, Tryd.ntmps22
  go_wp2
  go_region_with (first
    | (go_at_call_of 44 (Value.slice A k k); refine (clone_any A k k bs HL.out hlen _ w.heap.size ?_ ?_).mono ?_; exact Nat.le_refl _; exact HB.out; rintro e w1 ⟨A1, c1, rfl, hA1, hY1, hb1⟩)
    | (go_at_call_of 44 (Value.slice A 0 0); refine (clone_any A 0 0 [] rfl (by omega) _ 0 ?_ ?_).mono ?_; exact Nat.zero_le _; exact Bys.nil _ _ _; rintro e w2 ⟨A2, c2, rfl, hA2, hY2, hb2⟩))
  all_goals go_wp2
  all_goals go_ret3
  all_goals exact cutSome_mk A1 c1 A2 c2 0 (by have := HL.out; omega) rfl hA1 hA2 ((hY1.below hb2).more hb2.size |>.eq (by rw [List.take_of_length_le (by have := HL.out; omega)])) (hY2.eq (by rw [List.drop_of_length_le (by have := HL.out; omega)])) (below_undrew (hb1.trans (hb2.mono hb1.size)))

set_option maxHeartbeats 1000000 in
theorem cut_mid (ad : Addr) (len cap k : Nat) (bs : List Nat) (hl : bs.length = len) (hlen : len ≤ 4096) (hcap : len ≤ cap) (hk : k ≤ len) (hne : cap ≠ k) (w : World) (hb : Bys w w.heap.size (some ad) bs) :
    Calls Tryd.prog 22 #[.slice (some ad) len cap, .int .i64 (k : Int)] w (CutSome bs k w) := by
  have h1 : decide ((k : Int) < 0) = false := by simp
  have h2 : decide ((len : Int) < (k : Int)) = false := by simp; omega
  have hkl : (k : Int) ≤ (len : Int) := by omega
  have hkc : (k : Int) ≤ (cap : Int) := by omega
  have HL := Lib.hid hl; clear hl
  have HB := Lib.hid hb
  have HT := Lib.hid (hb.take k)
  have hD := hb.behind k cap (by have := HL.out; omega) (by have := HL.out; omega)
  rw [if_neg hne] at hD
  simp only [Option.map_some, Nat.mul_one] at hD
  have HD := Lib.hid hD
  clear hb hD
  go_enter Tryd.func22, Tryd.ntmps22
  go_wp2
  go_region_with (first
    | (go_at_call_of 44 (Value.slice (some ad) k cap); refine (clone_any (some ad) k cap (bs.take k) (by rw [List.length_take]; have := HL.out; omega) (by omega) _ w.heap.size ?_ ?_).mono ?_; exact Nat.le_refl _; exact HT.out; rintro e w1 ⟨A1, c1, rfl, hA1, hY1, hb1⟩)
    | (go_at_call_of 44 (Value.slice (some (ad.add k)) (len - k) (cap - k)); refine (clone_any (some (ad.add k)) (len - k) (cap - k) (bs.drop k) (by rw [List.length_drop, HL.out]) (by omega) _ w.heap.size ?_ ?_).mono ?_; exact hb1.size; exact HD.out.below (below_undrew hb1); rintro e w2 ⟨A2, c2, rfl, hA2, hY2, hb2⟩))
  all_goals go_wp2
  all_goals go_ret3
  all_goals exact cutSome_mk A1 c1 A2 c2 (len - k) (by rw [HL.out]) rfl hA1 hA2 ((hY1.below hb2).more hb2.size) hY2 (below_undrew (hb1.trans (hb2.mono hb1.size)))

/-- CUT, within. -/
theorem cut_some (A : Option Addr) (len cap k : Nat) (bs : List Nat) (hl : bs.length = len) (hlen : len ≤ 4096) (hcap : len ≤ cap) (hnil : A = none → cap = 0) (hk : k ≤ len) (w : World) (hb : Bys w w.heap.size A bs) :
    Calls Tryd.prog 22 #[.slice A len cap, .int .i64 (k : Int)] w (CutSome bs k w) := by
  by_cases hne : cap = k
  · obtain rfl : len = k := by omega
    obtain rfl : cap = len := hne
    exact cut_end A _ bs hl hlen w hb
  · cases A with
    | none => have := hnil rfl; omega
    | some ad => exact cut_mid ad len cap k bs hl hlen hcap hk hne w hb
end Go.Proofs.YtonoidhlbnbhcaaDoor
namespace Go.Proofs.YtonoidhlbnbhcaaDoor
open Go.RowKit Arr

theorem vals_nv (k : IntKind) (l : List Nat) : vals k l = nv k l := rfl

theorem holds_of_owns {w : World} {base e n : Nat} {v : Value} {k : IntKind} {l : List Nat} (h : w.ownsRow base e 1 v n (vals k l)) (hn : 0 < n) :
    ∃ g c, v = .slice (some ⟨g, 0, none⟩) n c ∧ base ≤ g ∧ n ≤ c ∧ l.length = n ∧ Holds w g k l := by
  have hl : l.length = n := by have := h.1; simpa [vals] using this
  rcases h.2 with ⟨_, h0⟩ | ⟨g, cap, cur, rfl, hb, hg, h1, h2, h3, h4⟩
  · omega
  · have key : ∀ i, i < l.length → w.cell? ⟨g, i, none⟩ = some (.int k ((l.getD i 0 : Nat) : Int)) := fun i hi => by
      rw [cell_of_row _ _ _ _ _ _ hg]
      have h5 : (cur.toList.take (n * 1))[i]? = (vals k l)[i]? := by rw [h4]
      rw [vals_get k l i hi, List.getElem?_take, if_pos (by omega)] at h5
      simpa using h5
    refine ⟨g, cap, rfl, hb, h1, hl, fun j v hv => ?_, fun j hj => ⟨?_, ?_⟩⟩
    · have hj : j < l.length := by
        have := (List.getElem?_eq_some_iff.1 hv).1
        rwa [length_nv] at this
      rw [nv_get k l j hj] at hv
      rw [Nat.zero_add, key j hj]
      exact hv
    · rw [Nat.zero_add, key j hj]; rfl
    · rw [Nat.zero_add]; exact frozen_of_row _ _ _ _ _ hg
end Go.Proofs.YtonoidhlbnbhcaaDoor
namespace Go.Proofs.YtonoidhlbnbhcaaDoor
open Go.RowKit Arr

/-- A call that makes the bytes l in a block of their own. -/
def Fresh (l : List Nat) (w : World) (e : Ending) (w' : World) : Prop :=
  ∃ g c, e = .returned (.slice (some ⟨g, 0, none⟩) l.length c) ∧ w.heap.size ≤ g ∧ l.length ≤ c ∧ Holds w' g .u8 l ∧ Below w.heap.size w w'

theorem fresh_of_owns {w w' : World} {v : Value} {n : Nat} {l : List Nat} (h : w'.ownsRow w.heap.size 5 1 v n (vals .u8 l)) (hn : 0 < n) (hb : Below w.heap.size w w') : Fresh l w (.returned v) w' := by
  obtain ⟨g, c, rfl, h1, h2, h3, h4⟩ := holds_of_owns h hn
  subst h3
  exact ⟨g, c, rfl, h1, h2, h4, hb⟩

theorem sclone_any (ad : Addr) (n c : Nat) (bs : List Nat) (hl : bs.length = n) (hn0 : 0 < n) (hn : n ≤ 4096) (w : World) (B : Nat) (hB : B ≤ w.heap.size) (hb : Bys w B (some ad) bs) :
    Calls Tryd.prog 20 #[.slice (some ad) n c] w (Fresh bs w) := by
  have hnil := fun (wx : World) => Lib.run_eql_slice_nil (P := Tryd.prog) wx 22 5 (some ad) n c 0 0 Tryd.underlying22
  have HB := Lib.hid hb; clear hb
  have HL := Lib.hid hl; clear hl
  go_enter Tryd.func20, Tryd.ntmps20
  go_wp2_with (at_builtin; refine append_bys rfl (.tmp 5) (.tmp 6) 22 rfl w.heap.size 5 Tryd.underlying22 info_u8 (.slice (some ⟨w.heap.size, 0, none⟩) 0 0) 0 [] rfl (empty_owns w) (some ad) n c bs rfl (fun h => by cases h) HL.out B (HB.out.below ((Below.refl _ _).alloc hB _)) (by omega) (by simp) (by simp) ?_; intro v' w1 hown hv hbel)
  rw [List.nil_append, Nat.zero_add] at hown
  have HF := Lib.hid (fresh_of_owns hown hn0 (((Below.refl w.heap.size w).alloc (Nat.le_refl _) (.cells #[] 5)).trans hbel))
  clear hown hv hbel
  go_wp2
  go_ret
  exact HF.out

/-- What Grow(nil, n) leaves: an empty row with room. -/
def Roomy (w : World) (e : Ending) (w' : World) : Prop :=
  ∃ v, e = .returned v ∧ v ≠ .slice none 0 0 ∧ w'.ownsRow w.heap.size 5 1 v 0 (vals .u8 []) ∧ Below w.heap.size w w'
theorem grow_nil (n : Nat) (hn0 : 0 < n) (hn : n ≤ 4096) (w : World) :
    Calls Tryd.prog 30 #[.slice none 0 0, .int .i64 (n : Int)] w (Roomy w) := by
  obtain ⟨i0, hi, hz0, hz1, hz2⟩ := info_parts info_u8
  have hr := Lib.run_append_nil_zeros (P := Tryd.prog) w 22 3 22 5 i0 (.int .u8 0) .i64 .i64 Tryd.underlying22 Tryd.underlying3 hi hz0 n hn0 (by omega) (by omega) (by rw [hz2]; omega)
  have hge := grownCap_ge w n 0 5
  have hcm := grownCap_le_maxLen w n 0 5 (by unfold maxLen; omega)
  have HO := Lib.hid (World.ownsRow_made w.drew (base := w.heap.size) (e := 5) (size := 1) (Builtin.zeroCells (Value.cells (.int .u8 0)) n ++ Builtin.zeroCells (Value.cells (.int .u8 0)) (grownCap w n 0 5 - n)) (grownCap w n 0 5) (Nat.le_refl _) hcm (by simp [Value.cells, size_zeroCells]; omega))
  have HB := Lib.hid ((below_drewN (Below.refl w.heap.size w) 1).alloc (Nat.le_refl _) (.cells (Builtin.zeroCells (Value.cells (.int .u8 0)) n ++ Builtin.zeroCells (Value.cells (.int .u8 0)) (grownCap w n 0 5 - n)) 5))
  generalize grownCap w n 0 5 = cap at *
  generalize Builtin.zeroCells (Value.cells (.int .u8 0)) n ++ Builtin.zeroCells (Value.cells (.int .u8 0)) (cap - n) = cs at *
  have HR := Lib.hid hr
  clear hr hi hz0 hz1 hz2 hge hcm
  have w1 : IntKind.i64.wrap (n : Int) = n := wrap_nat n (by omega)
  have t1 : decide ((n : Int) < 0) = false := by simp
  have t2 : decide ((n : Int) > 0) = true := by simp; omega
  have t3 : decide (0 < (n : Int)) = true := by simp; omega
  have t4 : 0 < (n : Int) := by omega
  go_enter Tryd.func30, Tryd.ntmps30
  go_wp2_with (at_builtin; refine Lib.wpList_append_run _ rfl (.tmp 20) (.tmp 21) _ _ rfl (.slice none 0 0) (.int .i64 (n : Int)) rfl rfl _ _ HR.out ?_)
  go_ret
  exact ⟨_, rfl, (by simp), HO.out, HB.out⟩

/-- The first k of two, one behind the other. -/
def cat2 (a b : List Nat) : Nat → List Nat
  | 0 => []
  | 1 => a
  | _ => a ++ b

set_option maxHeartbeats 2000000 in
theorem concat2 (gs : Nat) (A0 A1 : Option Addr) (n0 c0 n1 c1 : Nat) (a b : List Nat) (h0 : a.length = n0) (h1 : b.length = n1) (hs : 0 < n0) (hn0 : n0 ≤ 1000) (hn1 : n1 ≤ 1000) (hA0 : A0 = none → c0 = 0) (hA1 : A1 = none → c1 = 0)
    (w : World) (hc0 : w.cell? ⟨gs, 0, none⟩ = some (.slice A0 n0 c0)) (hc1 : w.cell? ⟨gs, 1, none⟩ = some (.slice A1 n1 c1)) (hb0 : Bys w w.heap.size A0 a) (hb1 : Bys w w.heap.size A1 b) :
    Calls Tryd.prog 14 #[.slice (some ⟨gs, 0, none⟩) 2 2] w (Fresh (a ++ b) w) := by
  have hgs : gs < w.heap.size := block_lt_of_cell hc0
  have H0 := Lib.hid h0
  have H1 := Lib.hid h1
  have HC0 := Lib.hid hc0
  have HC1 := Lib.hid hc1
  have HB0 := Lib.hid hb0
  have HB1 := Lib.hid hb1
  clear h0 h1 hb0 hb1
  have w0 : IntKind.i64.wrap (n0 : Int) = n0 := wrap_nat n0 (by omega)
  have w1 : IntKind.i64.wrap ((n0 : Int) + (n1 : Int)) = (n0 : Int) + n1 := by rw [IntKind.wrap_i64]; omega
  have t0 : decide ((n0 : Int) < 0) = false := by simp
  have t1 : decide ((n0 : Int) + (n1 : Int) < 0) = false := by simp; omega
  have CG := Lib.hid (fun w' => grow_nil (n0 + n1) (by omega) (by omega) w')
  go_enter Tryd.func14, Tryd.ntmps14
  go_wp2
  go_loop [3, 11] (fun s i => (i = .int .i64 0 ∧ s = .int .i64 0) ∨ (i = .int .i64 1 ∧ s = .int .i64 (n0 : Int)) ∨ (i = .int .i64 2 ∧ s = .int .i64 ((n0 : Int) + n1))) (fun _ i => 2 - (intOf i).toNat)
  case atStart => exact .inl ⟨rfl, rfl⟩
  case round =>
    rcases hrel with ⟨rfl, rfl⟩ | ⟨rfl, rfl⟩ | ⟨rfl, rfl⟩
    · go_wp2
      go_round
      case rel => exact .inr (.inl ⟨rfl, by first | rfl | go_num⟩)
      case measure => simp [intOf]
    · go_wp2
      go_round
      case rel => exact .inr (.inr ⟨rfl, by first | rfl | go_num⟩)
      case measure => simp [intOf]
    · go_wp2_with fail
      refine (CG.out w).mono ?_
      rintro e w2 ⟨v, rfl, hv, hown, hbel⟩
      have HV := Lib.hid hv
      have HO := Lib.hid hown
      have HBE := Lib.hid hbel
      clear hv hown hbel CG
      clear hc0 hc1
      go_wp2_with fail
      go_loopw [6, 27] (fun v i wr => ∃ k m : Nat, k ≤ 2 ∧ i = .int .i64 (k : Nat) ∧ wr.ownsRow w.heap.size 5 1 v m (vals .u8 (cat2 a b k)) ∧ v ≠ .slice none 0 0 ∧ Below w.heap.size w wr ∧ m ≤ 2000 ∧ (k = 1 → m = n0) ∧ (k = 2 → m = n0 + n1) ∧ (k = 0 → m = 0)) (fun _ i _ => 2 - (intOf i).toNat)
      case atStart => exact ⟨0, 0, by omega, rfl, HO.out, HV.out, HBE.out, by omega, by omega, by omega, by omega⟩
      case round =>
        clear HO HV HBE
        obtain ⟨k, m, hk, rfl, ho, hv, hb, hm, hk1, hk2, hk0⟩ := hrel
        have HO := Lib.hid ho
        have HV := Lib.hid hv
        have HBE := Lib.hid hb
        clear ho hv hb
        obtain rfl | rfl | rfl : k = 0 ∨ k = 1 ∨ k = 2 := by omega
        · obtain rfl := hk0 rfl
          have c0' := (HBE.out.cell (p := ⟨gs, 0, none⟩) hgs).trans HC0.out
          clear hk1 hk2 hk0
          go_wp2_with (at_builtin; refine append_bys rfl (.tmp 31) (.tmp 32) 22 rfl w.heap.size 5 Tryd.underlying22 info_u8 _ 0 [] rfl HO.out A0 n0 c0 a rfl hA0 H0.out w.heap.size (HB0.out.below HBE.out) (by omega) HBE.out.size HV.out ?_; intro v' w1 hown' hv' hbel')
          rw [List.nil_append, Nat.zero_add] at hown'
          go_roundw
          case rel => exact ⟨1, n0, by omega, rfl, hown', hv', HBE.out.trans hbel', by omega, fun _ => rfl, by omega, by omega⟩
          case measure => simp [intOf]
        · obtain rfl := hk1 rfl
          have c0' := (HBE.out.cell (p := ⟨gs, 1, none⟩) hgs).trans HC1.out
          clear hk1 hk2 hk0
          go_wp2_with (at_builtin; refine append_bys rfl (.tmp 31) (.tmp 32) 22 rfl w.heap.size 5 Tryd.underlying22 info_u8 _ m a rfl HO.out A1 n1 c1 b rfl hA1 H1.out w.heap.size (HB1.out.below HBE.out) (by omega) HBE.out.size HV.out ?_; intro v' w1 hown' hv' hbel')
          go_roundw
          case rel => exact ⟨2, m + n1, by omega, rfl, hown', hv', HBE.out.trans hbel', by omega, by omega, fun _ => rfl, by omega⟩
          case measure => simp [intOf]
        · obtain rfl := hk2 rfl
          have HF := Lib.hid (fresh_of_owns (l := a ++ b) HO.out (by omega) HBE.out)
          clear hk1 hk2 hk0 HO HBE
          go_wp2
          go_ret
          exact HF.out
end Go.Proofs.YtonoidhlbnbhcaaDoor
