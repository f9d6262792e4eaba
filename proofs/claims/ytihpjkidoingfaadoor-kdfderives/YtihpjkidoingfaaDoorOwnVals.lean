/-
  Own lemmas on rows that a call makes: values of any kind of one cell; slices of slices. No conditions.
-/
import Derived.Test.YtihpjkidoingfaaDoorOwnMany
import Derived.Test.YtihpjkidoingfaaDoorShaAwake
namespace Go.Proofs.YtihpjkidoingfaaDoor
open Go.RowKit Arr Sh

/-- Many values more: 'v = append(v, x...)', v a row of the call's own (nil or not), x whatever slice. -/
theorem append_vals {P : Program} {w : World} {ops : Array Oper} {rest : List Oper} {o : Oper} {a : Act} {Q : Exit → Act → World → Prop} (hgd : Region.wanted o (yielded ops a.tmps) = true) (s x : Operand) (t : TypeId)
    (ho : o.op = .call { callee := .builtin .append, args := #[s, x], argTypes := #[t, t] })
    (base : Nat) (e : TypeId) (z : Value) (bytes : Nat) (ht : P.underlying t = some (.slice e)) (hinfo : (P.info? e).map (fun i => (i.zero, i.size, i.bytes)) = some (some z, 1, bytes)) (hz : z.cells.size = 1) (hby : bytes ≤ 64)
    (v : Value) (n : Nat) (xs : List Value) (hs : a.eval s = v) (hown : w.ownsRow base e 1 v n xs)
    (A : Option Addr) (m c : Nat) (us : List Value) (hx : a.eval x = .slice A m c) (hc : A = none → c = 0) (hl : us.length = m) (h1 : ∀ u ∈ us, u.oneCell' = true)
    (hb : 0 < us.length → ∃ b off, A = some ⟨b, off, none⟩ ∧ ∀ i u, us[i]? = some u → w.cell? ⟨b, off + i, none⟩ = some u)
    (hn : n + m ≤ 4294967296) (hbase : base ≤ w.heap.size)
    (h : ∀ v' w', w'.ownsRow base e 1 v' (n + m) (xs ++ us) → Below base w w' → wpList P ops Q rest (a.put o.dst v') w') : wpList P ops Q (o :: rest) a w := by
  obtain ⟨i0, hi, hz0, hz1, hz2⟩ := info_parts hinfo
  have hmul : (n + m) * bytes ≤ 4294967296 * 64 := Nat.mul_le_mul hn hby
  refine wpList_step fun K hK => ?_
  rw [if_pos hgd]
  have goal : ∃ v' w', (Builtin.append_ #[t, t] o.type #[v, .slice A m c]).run P w = .ok v' w' ∧ w'.ownsRow base e 1 v' (n + m) (xs ++ us) ∧ Below base w w' := by
    rcases A with _ | ad
    · have hm : us = [] := by
        rcases Nat.eq_zero_or_pos us.length with h0 | h0
        · exact List.eq_nil_of_length_eq_zero h0
        · obtain ⟨_, _, he, _⟩ := hb h0; cases he
      subst hm
      obtain rfl : m = 0 := hl.symm
      obtain rfl : c = 0 := hc rfl
      exact ⟨v, w, run_append_owned_none (P := P) (w := w) base t o.type e i0 1 ht hi v n _ hown, by simpa using hown, Below.refl _ _⟩
    · have hnews : ∀ j u, us[j]? = some u → w.cell? (ad.add j) = some u := by
        intro j u hu
        have hj : j < us.length := (List.getElem?_eq_some_iff.1 hu).1
        obtain ⟨b, off, he, hcell⟩ := hb (by omega)
        simp only [Option.some.injEq] at he
        subst he
        rw [add_nat]; exact hcell j u hu
      obtain ⟨v', w', hr, h2, h3, h4⟩ := run_append_own (P := P) w base t o.type e i0 z 1 bytes ht hi hz0 hz1 hz2 hz (by decide) v n _ hown ad m c us (by rw [hl, Nat.mul_one]) hnews
        h1 (by unfold maxLen; omega) (by omega) hbase
      exact ⟨v', w', hr, h2, (Below.refl base w).grown h3 hbase (fun k hk => (hown.lt k hk).1)⟩
  obtain ⟨v', w', hr, h2, h4⟩ := goal
  unfold Oper.wp execOp
  simp only [ho, resolve, invoke, builtin, Sem.run_bind, Sem.run_pure, Result.andThen_ok, List.map_toArray, List.map_cons, List.map_nil, hs, hx, hr]
  exact hK _ _ (h v' w' h2 h4)

/-- The heads of parts, as values. -/
def hdsV (ps : List Pt) : List Value := ps.map fun p => Value.slice p.A p.bs.length p.c
theorem hdsV_one (ps : List Pt) : ∀ u ∈ hdsV ps, u.oneCell' = true := by
  intro u hu
  simp only [hdsV, List.mem_map] at hu
  obtain ⟨p, _, rfl⟩ := hu
  rfl
theorem length_hdsV (ps : List Pt) : (hdsV ps).length = ps.length := by simp [hdsV]
theorem hdsV_get (ps : List Pt) (i : Nat) (h : i < ps.length) : (hdsV ps)[i]? = some (.slice ps[i].A ps[i].bs.length ps[i].c) := by simp [hdsV, h]
/-- The heads lie where the parts are. -/
theorem Parts.cells {w : World} {B : Nat} {A : Option Addr} {ps : List Pt} (h : Parts w B A ps) : 0 < (hdsV ps).length → ∃ b off, A = some ⟨b, off, none⟩ ∧ ∀ i u, (hdsV ps)[i]? = some u → w.cell? ⟨b, off + i, none⟩ = some u := fun hl => by
  rw [length_hdsV] at hl
  obtain ⟨b, off, e, _, hc⟩ := h.heads hl
  refine ⟨b, off, e, fun i u hu => ?_⟩
  have hi : i < ps.length := by have := (List.getElem?_eq_some_iff.1 hu).1; rwa [length_hdsV] at this
  rw [hdsV_get ps i hi] at hu
  rw [hc i hi]; exact hu
/-- A row of slices that the call owns, as parts. -/
theorem Parts.of_owns {w : World} {base e n : Nat} {v : Value} {ps : List Pt} (h : w.ownsRow base e 1 v n (hdsV ps)) (he : ∀ i (h : i < ps.length), ps[i].bs.length ≤ ps[i].c ∧ Bys w w.heap.size ps[i].A ps[i].bs) :
    ∃ A c, v = .slice A n c ∧ ps.length = n ∧ (A = none → c = 0) ∧ Parts w w.heap.size A ps := by
  have hl : ps.length = n := by have := h.1; rw [length_hdsV] at this; omega
  rcases Nat.eq_zero_or_pos n with h0 | h0
  · rcases h.2 with ⟨rfl, _⟩ | ⟨g, cap, cur, rfl, _⟩
    · exact ⟨_, _, by rw [h0], hl, fun _ => rfl, fun hp => by omega, he⟩
    · exact ⟨_, _, rfl, hl, (fun h => by cases h), fun hp => by omega, he⟩
  · obtain ⟨g, cap, rfl, _, hlt⟩ := h.form h0
    refine ⟨_, _, rfl, hl, (fun h => by cases h), fun _ => ⟨g, 0, rfl, hlt, fun i hi => ?_⟩, he⟩
    rw [Nat.zero_add, h.cellAt i (by omega), hdsV_get ps i hi]
theorem Parts.later {w w' : World} {A : Option Addr} {ps : List Pt} (h : Parts w w.heap.size A ps) (hb : Below w.heap.size w w') : Parts w' w'.heap.size A ps := by
  have h1 := h.below hb
  exact ⟨fun hp => by
    obtain ⟨b, off, e, hl, hc⟩ := h1.heads hp
    exact ⟨b, off, e, Nat.lt_of_lt_of_le hl hb.size, hc⟩, fun i hi => ⟨(h1.each i hi).1, (h1.each i hi).2.more hb.size⟩⟩
theorem textOf_cons (p : Pt) (ps : List Pt) : textOf (p :: ps) = p.bs ++ textOf ps := by simp [textOf]
theorem textOf_nil : textOf [] = [] := rfl
theorem info_bytes : (Tryd.prog.info? 22).map (fun i => (i.zero, i.size, i.bytes)) = some (some (.slice none 0 0), 1, 24) := by kernel_rfl
/-- Bytes of an array, as a slice. -/
theorem bys_of_holds {w : World} {g : Nat} {l : List Nat} (h : Holds w g .u8 l) (hb : ∀ x, x ∈ l → x < 256) : Bys w w.heap.size (some ⟨g, 0, none⟩) l :=
  ⟨hb, fun hl => ⟨g, 0, rfl, h.lt hl, fun i hi => by rw [Nat.zero_add]; exact h.cell i hi⟩⟩
/-- One part, laid anew. -/
theorem Parts.one (w : World) (bs : List Nat) (A : Option Addr) (n c : Nat) (hn : bs.length = n) (hc : n ≤ c) (hb : Bys w w.heap.size A bs) :
    Parts (w.alloc (.cells #[.slice A n c] 22)) (w.alloc (.cells #[.slice A n c] 22)).heap.size (some ⟨w.heap.size, 0, none⟩) [⟨A, c, bs⟩] := by
  subst hn
  refine Parts.new w 22 _ (fun j hj => ?_) _ rfl
  obtain rfl : j = 0 := by simpa using hj
  exact ⟨hc, hb⟩
theorem Parts.two (w : World) (bs cs : List Nat) (A C : Option Addr) (n c m d : Nat) (hn : bs.length = n) (hc : n ≤ c) (hb : Bys w w.heap.size A bs) (hm : cs.length = m) (hd : m ≤ d) (hb' : Bys w w.heap.size C cs) :
    Parts (w.alloc (.cells #[.slice A n c, .slice C m d] 22)) (w.alloc (.cells #[.slice A n c, .slice C m d] 22)).heap.size (some ⟨w.heap.size, 0, none⟩) [⟨A, c, bs⟩, ⟨C, d, cs⟩] := by
  subst hn hm
  refine Parts.new w 22 _ (fun j hj => ?_) _ rfl
  match j, hj with
  | 0, _ => exact ⟨hc, hb⟩
  | 1, _ => exact ⟨hd, hb'⟩
theorem Parts.three (w : World) (bs cs ds : List Nat) (A C D : Option Addr) (n c m d l e : Nat) (hn : bs.length = n) (hc : n ≤ c) (hb : Bys w w.heap.size A bs) (hm : cs.length = m) (hd : m ≤ d) (hb' : Bys w w.heap.size C cs) (hl : ds.length = l) (he : l ≤ e) (hb'' : Bys w w.heap.size D ds) :
    Parts (w.alloc (.cells #[.slice A n c, .slice C m d, .slice D l e] 22)) (w.alloc (.cells #[.slice A n c, .slice C m d, .slice D l e] 22)).heap.size (some ⟨w.heap.size, 0, none⟩) [⟨A, c, bs⟩, ⟨C, d, cs⟩, ⟨D, e, ds⟩] := by
  subst hn hm hl
  refine Parts.new w 22 _ (fun j hj => ?_) _ rfl
  match j, hj with
  | 0, _ => exact ⟨hc, hb⟩
  | 1, _ => exact ⟨hd, hb'⟩
  | 2, _ => exact ⟨he, hb''⟩
theorem textTwo (A C : Option Addr) (c d : Nat) (bs cs : List Nat) : textOf [⟨A, c, bs⟩, ⟨C, d, cs⟩] = bs ++ cs := by simp [textOf]
theorem textThree (A C D : Option Addr) (c d e : Nat) (bs cs ds : List Nat) : textOf [⟨A, c, bs⟩, ⟨C, d, cs⟩, ⟨D, e, ds⟩] = bs ++ (cs ++ ds) := by simp [textOf]
/-- A text, cut. -/
theorem cut_all (bs : List Nat) (n i : Nat) (hn : bs.length = n) : (bs.drop 0).take i ++ (bs.drop i).take (n - i) = bs := by
  subst hn
  rw [List.drop_zero, List.take_of_length_le (l := bs.drop i) (by simp), List.take_append_drop]
/-- What a law's walk ends with. -/
def True' (w : World) (e : Ending) (w' : World) : Prop := e = .returned (.bool true) ∧ Below w.heap.size w w'
end Go.Proofs.YtihpjkidoingfaaDoor
