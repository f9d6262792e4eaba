/-
  Contract of hmac.Chain: tags, one out of the other. Conditions: the tables stand in their variables; key and items lie below, in their slices; the items are at most 2^32 - 1, each of fewer than 2^59 bytes, the key has fewer than 2^60.
-/
import Derived.Test.YtdfbhgajomdeeaaDoorHmFns
import Derived.Test.YtdfbhgajomdeeaaDoorShaBehind
import Derived.Deep.CutRange
namespace Go.Proofs.YtdfbhgajomdeeaaDoor.Arr
open Go.ChangeShapes Go.WideShapes Go.ChangeAt Go.RowKit
variable {P : Program}
/-- An element's place, told. -/
theorem list_index {ops : Array Oper} {rest : List Oper} {dst : Option Tmp} {t ty : TypeId} {pos : String} {after : Array Edge} {a : Act} {w : World} {Q : Exit → Act → World → Prop} {x y : Operand} (vx vy v : Value) (hx : a.eval x = vx) (hy : a.eval y = vy)
    (hr : (Instr.indexAt t vx vy).run P w = .ok v w) (h : wpList P ops Q rest (a.put dst v) w) : wpList P ops Q ({ dst := dst, op := .indexAddr t x y, type := ty, pos := pos, after := after, guard := none } :: rest) a w := by
  refine wpList_plain rfl fun K hK => ?_
  unfold Oper.wp execOp
  simp only [hx, hy, hr, Sem.run_bind, Sem.run_pure, Result.andThen_ok]
  exact hK _ _ h
/-- A block of n cells of one type. -/
def Shape (w : World) (g : Nat) (t : TypeId) (n : Nat) : Prop := ∃ cur, w.heap[g]? = some (.cells cur t (0, 0)) ∧ cur.size = n
section
variable {w w' : World} {g n : Nat} {t : TypeId}
theorem Shape.lt (h : Shape w g t n) : g < w.heap.size := by obtain ⟨cur, h1, _⟩ := h; exact (Array.getElem?_eq_some_iff.1 h1).1
theorem Shape.below {B : Nat} (h : Shape w g t n) (hb : Below B w w') (hg : g < B) : Shape w' g t n := by
  obtain ⟨cur, h1, h2⟩ := h
  exact ⟨cur, by rw [hb.block g hg]; exact h1, h2⟩
theorem Shape.drew (h : Shape w g t n) : Shape w.drew g t n := h
theorem Shape.setCell (h : Shape w g t n) (a : Addr) (ha : a.spot = none) (v : Value) : Shape (w.setCell a v) g t n := by
  obtain ⟨cur, h1, h2⟩ := h
  obtain ⟨b, o, s⟩ := a
  simp only at ha
  subst ha
  by_cases e : b = g
  · subst e
    exact ⟨_, heap_setCell_same w b o cur t v h1, by simpa using h2⟩
  · exact ⟨cur, by rw [heap_setCell_other w ⟨b, o, none⟩ g v (fun x => e x.symm)]; exact h1, h2⟩
theorem Shape.setCells (b : Nat) : ∀ (vs : List Value) (o : Nat) (w : World), Shape w g t n → Shape (w.setCells b o vs) g t n
  | [], _, _, h => h
  | v :: vs, o, w, h => by rw [World.setCells]; exact Shape.setCells b vs _ _ (h.setCell ⟨b, o, none⟩ rfl v)
theorem Shape.new (w : World) (t : TypeId) (cs : Array Value) : Shape (w.alloc (.cells cs t)) w.heap.size t cs.size := ⟨cs, heap_alloc_last w _, rfl⟩
theorem Shape.all {k : IntKind} {l : List Nat} (h : Shape w g t n) (hh : Holds w g k l) (hl : l.length = n) : w.heap[g]? = some (.cells (na k l) t (0, 0)) := by
  obtain ⟨cur, h1, h2⟩ := h
  have e : cur = na k l := by
    apply Array.ext_getElem?
    intro i
    by_cases hi : i < n
    · have := hh.cell i (by omega)
      rw [cell_of_row _ _ _ _ _ _ h1] at this
      rw [this, na_get k l i (by omega)]
    · rw [Array.getElem?_eq_none (by omega), Array.getElem?_eq_none (by rw [size_na]; omega)]
  rw [h1, e]
theorem Holds.ofBlock {k : IntKind} {l : List Nat} (h : w.heap[g]? = some (.cells (na k l) t (0, 0))) : Holds w g k l := by
  refine ⟨fun j v hv => ?_, fun j hj => ⟨?_, ?_⟩⟩
  · rw [cell_of_row _ _ _ _ _ _ h, Nat.zero_add]; simpa [na] using hv
  · rw [cell_of_row _ _ _ _ _ _ h, Nat.zero_add, na_get k l j hj]; rfl
  · exact frozen_of_row _ _ _ _ _ h
end
end Go.Proofs.YtdfbhgajomdeeaaDoor.Arr
namespace Go.Proofs.YtdfbhgajomdeeaaDoor
open Go.RowKit Arr Sh Hm

theorem info_tag : (Tryd.prog.info? 28).map (fun i => (i.zero, i.size, i.bytes)) = some (some (.agg (na .u8 (zs 32))), 32, 32) := by kernel_rfl
theorem under_tags : Tryd.prog.underlying 35 = some (.slice (Tryd.prog.elem 35)) := by
  have := Tryd.underlying35
  simp only [Program.elem, this]
theorem elem_tags : Tryd.prog.elem 35 = 28 := by have := Tryd.underlying35; simp only [Program.elem, this]
theorem made_tags (n : Nat) : madeCells (na .u8 (zs 32)) n = na .u8 (zs n) := by
  apply Array.ext_getElem?
  intro i
  by_cases hi : i < n
  · have h32 : i % 32 < 32 := Nat.mod_lt _ (by omega)
    rw [na_get _ _ _ (by rw [length_zs]; exact hi), zs_get]
    have e : (na .u8 (zs 32))[i % 32]? = some (.int .u8 0) := by rw [na_get _ _ _ (by rw [length_zs]; exact h32), zs_get]; rfl
    simp only [madeCells, size_na, length_zs, Array.getElem?_map, Array.getElem?_range, hi, if_true, Option.map_some]
    rw [getElem!_def, e]
    rfl
  · rw [Array.getElem?_eq_none (by rw [size_madeCells]; omega), Array.getElem?_eq_none (by rw [size_na, length_zs]; omega)]
/-- The place of tag i. -/
theorem tag_at (W : World) (g N c : Nat) (i : Nat) (hi : i < N) : (Instr.indexAt 35 (.slice (some ⟨g, 0, none⟩) N c) (.int .i64 (i : Int))).run Tryd.prog W = .ok (.pointer (some ⟨g, 32 * i, none⟩)) W := by
  obtain ⟨i0, h1, hz0, hz1, hz2⟩ := info_parts info_tag
  have h2 : (sizeOf 28).run Tryd.prog W = .ok 32 W := by simp [sizeOf, typeInfo, h1, hz1]
  have h3 : (i : Int) < (N : Int) := by omega
  rw [run_indexAt_slice W 35 _ N c .i64 _ under_tags, if_pos ⟨by omega, h3⟩, elem_tags, h2]
  simp only [Result.andThen_ok, Int.toNat_natCast, add_nat, Nat.zero_add, Nat.mul_comm]

/-- Tags on their way: the pads, the row, the one ahead. -/
structure Ch (w : World) (gx gy gr ga : Nat) (x y row ah : List Nat) (n : Nat) (w' : World) : Prop where
  px : Holds w' gx .u8 x
  py : Holds w' gy .u8 y
  row : Holds w' gr .u8 row
  shp : Shape w' gr 28 n
  ah : Holds w' ga .u8 ah
  bel : Below w.heap.size w w'
  lt : ga < w'.heap.size
section
variable {w w' w'' : World} {gx gy gr ga n : Nat} {x y row ah : List Nat}
theorem Ch.next (h : Ch w gx gy gr ga x y row ah n w') (h1 : gx < ga) (h2 : gy < ga) (h3 : gr < ga) (hb : Below w'.heap.size w' w'') : Ch w gx gy gr ga x y row ah n w'' :=
  have hl := h.lt
  ⟨h.px.below hb (by omega), h.py.below hb (by omega), h.row.below hb (by omega), h.shp.below hb (by omega), h.ah.below hb hl, h.bel.trans (hb.mono h.bel.size), Nat.lt_of_lt_of_le hl hb.size⟩
theorem Ch.drew (h : Ch w gx gy gr ga x y row ah n w') : Ch w gx gy gr ga x y row ah n w'.drew := ⟨h.px.drew, h.py.drew, h.row.drew, h.shp.drew, h.ah.drew, below_drew h.bel, h.lt⟩
/-- Another tag ahead. -/
theorem Ch.put (h : Ch w gx gy gr ga x y row ah n w') (h0 : w.heap.size ≤ gx) (h1 : gx < ga) (h2 : gy < ga) (h3 : gr < ga) (m : List Nat) (hm : m.length = ah.length) : Ch w gx gy gr ga x y row m n (w'.setCells ga 0 (nv .u8 m)) :=
  ⟨h.px.apart _ _ _ (by omega), h.py.apart _ _ _ (by omega), h.row.apart _ _ _ (by omega), Shape.setCells _ _ _ _ h.shp, h.ah.put m hm, below_setCells (by omega) _ _ _ h.bel, by rw [size_setCells]; exact h.lt⟩
/-- A tag is laid into the row. -/
theorem Ch.lay (h : Ch w gx gy gr ga x y row ah n w') (h0 : w.heap.size ≤ gr) (h1 : gx < gr) (h2 : gy < gr) (h3 : gr < ga) (o : Nat) (m : List Nat) (ho : o + m.length ≤ row.length) : Ch w gx gy gr ga x y (spl row o m) ah n (w'.setCells gr o (nv .u8 m)) := by
  refine ⟨h.px.apart _ _ _ (by omega), h.py.apart _ _ _ (by omega), ?_, Shape.setCells _ _ _ _ h.shp, h.ah.apart _ _ _ (by omega), below_setCells (by omega) _ _ _ h.bel, by rw [size_setCells]; exact h.lt⟩
  have := (Holds.at0 h.row).spliced o m ho
  rwa [Nat.zero_add] at this
end
/-- What Chain leaves. -/
def GivesT (l : List Nat) (N : Nat) (w : World) (e : Ending) (w' : World) : Prop := ∃ g, e = .returned (.slice (some ⟨g, 0, none⟩) N N) ∧ w.heap.size ≤ g ∧ w'.heap[g]? = some (.cells (na .u8 l) 28 (0, 0)) ∧ Below w.heap.size w w'

/-- The row, t tags laid. -/
def rw' (k a : List Nat) (l : List (List Nat)) (N t : Nat) : List Nat := fl k a l t ++ zs (32 * (N - t))
theorem length_rw (k a : List Nat) (l : List (List Nat)) (N t : Nat) (hN : l.length = N) (ht : t ≤ N) : (rw' k a l N t).length = 32 * N := by
  rw [rw', List.length_append, length_zs, length_fl _ _ _ _ (by omega)]; omega
theorem rw_succ (k a : List Nat) (l : List (List Nat)) (N t : Nat) (hN : l.length = N) (ht : t < N) : spl (rw' k a l N t) (32 * t) (hd k a l (t + 1)) = rw' k a l N (t + 1) := by
  have h1 := length_fl k a l t (by omega)
  have h2 : (hd k a l (t + 1)).length = 32 := by rw [hd_succ k a l t (by omega), link, length_tag]
  unfold spl rw'
  rw [h2, ← h1, List.take_left, List.drop_append, List.drop_of_length_le (by omega), List.nil_append, fl, List.append_assoc]
  congr 2
  rw [show (fl k a l t).length + 32 - (fl k a l t).length = 32 by omega, zs, List.drop_replicate, zs]
  congr 1
  omega
theorem rw_zero (k a : List Nat) (l : List (List Nat)) (N : Nat) : rw' k a l N 0 = zs (32 * N) := by simp [rw', fl]
theorem rw_all (k a : List Nat) (l : List (List Nat)) (N : Nat) : rw' k a l N N = fl k a l N := by simp [rw', zs]

set_option maxHeartbeats 4000000 in
set_option maxRecDepth 10000 in
theorem Chain_any (ks : List Nat) (A0 : Option Addr) (n0 c0 : Nat) (h0 : ks.length = n0) (hc0 : n0 ≤ c0) (hn0 : n0 < 1152921504606846976) (a : List Nat) (ha : a.length = 32) (hab : ∀ x, x ∈ a → x < 256) (ps : List Pt) (A : Option Addr) (N c : Nat) (hN : ps.length = N) (hN2 : N < 4294967296) (hT : ∀ i (h : i < ps.length), ps[i].bs.length < 576460752303423488)
    (w : World) (hk : Bys w w.heap.size A0 ks) (hp : Parts w w.heap.size A ps) (hv : VarsS w) :
    Calls Tryd.prog 12 #[.slice A0 n0 c0, .agg (na .u8 a), .slice A N c] w (GivesT (fl ks a (ps.map (·.bs)) N) N w) := by
  obtain ⟨its, eits⟩ : ∃ its, its = ps.map (·.bs) := ⟨_, rfl⟩
  rw [← eits]
  have hitsN : its.length = N := by rw [eits, List.length_map, hN]
  have hits : ∀ i (h : i < ps.length), its[i]? = some ps[i].bs := fun i h => by rw [eits]; simp [h]
  have LI := length_inn ks
  have LO := length_outr ks
  have IB := Lib.hid (inn_lt hk.1)
  have OB := Lib.hid (outr_lt hk.1)
  have s1 : (w.alloc (.cells (na .u8 a) 28)).heap.size = w.heap.size + 1 := World.size_alloc ..
  have b1 := below_alloc w (.cells (na .u8 a) 28)
  have H1 := Lib.hid (Holds.new w 28 .u8 a)
  have C1 := Lib.hid (Pads_any ks A0 n0 c0 h0 hc0 hn0 (w.alloc (.cells (na .u8 a) 28)) (hv.below b1 (Nat.le_refl _)) ((hk.below b1).more b1.size))
  have hmk : ∀ W : World, (Instr.makeSlice 35 (.int .i64 (N : Int)) (.int .i64 (N : Int))).run Tryd.prog W = .ok (.slice (some ⟨W.heap.size, 0, none⟩) N N) (W.alloc (.cells (na .u8 (zs (32 * N))) 28)) := fun W => by
    obtain ⟨i0, e1, hz0, hz1, hz2⟩ := info_parts info_tag
    have hr := run_make (P := Tryd.prog) W 35 28 i0 (.agg (na .u8 (zs 32))) Tryd.underlying35 e1 hz0 .i64 .i64 (N : Int) (N : Int) (by omega) (by omega) (by rw [hz2]; omega) (by omega)
    rw [Int.toNat_natCast, hz1, Nat.mul_comm] at hr
    have e : (Value.agg (na .u8 (zs 32))).cells = na .u8 (zs 32) := rfl
    rw [e, made_tags] at hr
    exact hr
  have HV := Lib.hid hv
  have HP := Lib.hid hp
  have HT := Lib.hid hT
  have HN := Lib.hid hN
  have HI := Lib.hid hits
  have HIN := Lib.hid hitsN
  have S1 := Lib.hid s1
  have B1 := Lib.hid b1
  have ET : Go.RowKit.Hid (∀ ah t, t < N → ∀ bs, its[t]? = some bs → ah = hd ks a its t → tagP (inn ks) (outr ks) (ah ++ (bytesOf bs.length 8 ++ bs)) = hd ks a its (t + 1)) := Lib.hid (fun ah t ht bs hbs e => by
    have hlt : t < its.length := by omega
    rw [hd_succ ks a its t hlt, e]
    have : its[t] = bs := by rw [List.getElem?_eq_getElem hlt] at hbs; exact Option.some.inj hbs
    rw [this]; rfl)
  clear hk hp hv hT hN hits hitsN s1 b1 h0 eits
  generalize hxx : inn ks = x at *
  generalize hyy : outr ks = y at *
  clear hxx hyy
  go_enter Tryd.func12, Tryd.ntmps12
  go_upto_region 1 with fail
  generalize w.alloc (.cells (na .u8 a) 28) = w1 at *
  go_wp2_with fail
  refine C1.out.mono ?_
  rintro e w2 ⟨rfl, hB2⟩
  have hs1 := S1.out
  have B2 : Below w.heap.size w w2 := B1.out.trans (hB2.mono B1.out.size)
  have hs2 := hB2.size
  have PL := pads_laid B2 x y LI LO
  have a2 := H1.out.below hB2 (by omega)
  have A3 := Lib.hid ((a2.below PL.2.2.2.1.bel (by omega)))
  have P1 := Lib.hid PL.2.1
  have X2 : (w2.alloc (.cells (na .u8 (zs 64)) 25)).heap.size = w2.heap.size + 1 := World.size_alloc ..
  have P2 := Lib.hid (show Holds (((w2.alloc (.cells (na .u8 (zs 64)) 25)).alloc (.cells (na .u8 (zs 64)) 25)).setCells w2.heap.size 0 (nv .u8 x)) (w2.alloc (.cells (na .u8 (zs 64)) 25)).heap.size .u8 (zs 64) by rw [X2]; exact PL.2.2.1)
  have P3 := Lib.hid PL.2.2.2.1
  have P4 := Lib.hid PL.2.2.2.2
  clear PL a2 hB2 B2 C1 H1 B1
  go_upto_region 2 with (first | (with_reducible refine Arr.alloc (t := 25) _ z64b ?_) | (with_reducible refine Arr.store o64b w2.heap.size (zs 64) x (length_zs _) P1.out LI rfl rfl ?_) | (with_reducible refine Arr.store o64b (w2.alloc (.cells (na .u8 (zs 64)) 25)).heap.size (zs 64) y (length_zs _) P2.out LO rfl rfl ?_) | fail)
  rw [X2]
  generalize ((((w2.alloc (.cells (na .u8 (zs 64)) 25)).alloc (.cells (na .u8 (zs 64)) 25)).setCells w2.heap.size 0 (nv .u8 x)).setCells (w2.heap.size + 1) 0 (nv .u8 y)) = w3 at *
  have hy3 := P3.out.two.lt (by omega)
  have ha3 := A3.out.lt (by omega)
  have Q1 := P3.out.one
  have Q2 := P3.out.two
  clear P1 P2 P3 X2
  -- the row
  have b4 := below_alloc w3 (.cells (na .u8 (zs (32 * N))) 28)
  have s4 : (w3.alloc (.cells (na .u8 (zs (32 * N))) 28)).heap.size = w3.heap.size + 1 := World.size_alloc ..
  have R4 := Holds.new w3 28 .u8 (zs (32 * N))
  have Z4 := Shape.new w3 28 (na .u8 (zs (32 * N)))
  rw [size_na, length_zs] at Z4
  have A4 := Lib.hid (A3.out.below b4 ha3)
  -- the one ahead
  have b5 := below_setCells (b := (w3.alloc (.cells (na .u8 (zs (32 * N))) 28)).heap.size) (Nat.le_refl _) (nv .u8 a) 0 _ (below_alloc (w3.alloc (.cells (na .u8 (zs (32 * N))) 28)) (.cells (na .u8 (zs 32)) 28))
  have n5 := Holds.new (w3.alloc (.cells (na .u8 (zs (32 * N))) 28)) 28 .u8 (zs 32)
  have N5 := Lib.hid n5
  have m5 := n5.put a (by rw [ha, length_zs])
  have CH : Ch w w2.heap.size (w2.heap.size + 1) w3.heap.size (w3.alloc (.cells (na .u8 (zs (32 * N))) 28)).heap.size x y (rw' ks a its N 0) (hd ks a its 0) (32 * N) (((w3.alloc (.cells (na .u8 (zs (32 * N))) 28)).alloc (.cells (na .u8 (zs 32)) 28)).setCells (w3.alloc (.cells (na .u8 (zs (32 * N))) 28)).heap.size 0 (nv .u8 a)) := by
    rw [rw_zero, hd_zero]
    exact ⟨(Q1.below b4 (by omega)).below b5 (by omega), (Q2.below b4 hy3).below b5 (by omega), R4.below b5 (by omega), Z4.below b5 (by omega), m5, P4.out.trans ((b4.mono P4.out.size).trans (b5.mono (by have := P4.out.size; omega))), by simp only [size_setCells, World.size_alloc]; omega⟩
  have HC := Lib.hid CH
  have g0 : w.heap.size ≤ w2.heap.size := by omega
  have g1 : w2.heap.size < w3.heap.size := by omega
  have g2 : w2.heap.size + 1 < w3.heap.size := hy3
  have g3 : w3.heap.size < (w3.alloc (.cells (na .u8 (zs (32 * N))) 28)).heap.size := by omega
  clear CH b4 s4 R4 Z4 b5 n5 m5 Q1 Q2 P4 A3 ha3 hy3
  go_upto_region 3 with fail
  generalize w3.alloc (.cells (na .u8 (zs (32 * N))) 28) = w4 at *
  clear hmk
  generalize w3.heap.size = gr at *
  go_upto_region 4 with (first | (with_reducible refine Arr.load o32 w.heap.size a ha A4.out rfl ?_) | (with_reducible refine Arr.alloc (t := 28) _ z32 ?_) | (with_reducible refine Arr.store o32 w4.heap.size (zs 32) a (length_zs _) N5.out ha rfl rfl ?_) | fail)
  generalize (w4.alloc (.cells (na .u8 (zs 32)) 28)).setCells w4.heap.size 0 (nv .u8 a) = w5 at *
  clear A4 N5
  generalize w4.heap.size = ga at *
  generalize w2.heap.size = gx at *
  obtain ⟨gy, egy⟩ : ∃ gy, gy = gx + 1 := ⟨_, rfl⟩
  rw [← egy] at g2 HC ⊢
  clear egy
  go_wp2_with fail
  go_loopw [24] (fun i wr => ∃ t : Nat, t ≤ N ∧ i = .int .i64 (t : Nat) ∧ Ch w gx gy gr ga x y (rw' ks a its N t) (hd ks a its t) (32 * N) wr) (fun i _ => N - (intOf i).toNat)
  case atStart => exact ⟨0, by omega, rfl, HC.out⟩
  case round =>
    clear HC
    obtain ⟨t, ht, rfl, hch⟩ := hrel
    by_cases hlt : t < N
    · as_aux_lemma =>
      have tt : decide ((t : Int) < (N : Int)) = true := by simp; omega
      have ti : (t : Int) < (N : Int) := by omega
      have tl : t < ps.length := by rw [HN.out]; exact hlt
      obtain ⟨pb, po, rfl, hpb, hpc⟩ := (HP.out.below hch.bel).heads (by omega)
      have cp := hpc t tl
      have he := (HP.out.below hch.bel).each t tl
      have hbt := HT.out t tl
      have hit := HI.out t tl
      have hlh : (hd ks a its t).length = 32 := length_hd ks a its t ha (by have := HIN.out; omega)
      have hlb := hd_lt ks a its t hab (by have := HIN.out; omega)
      have het := ET.out (hd ks a its t) t hlt _ hit rfl
      have HET := Lib.hid het
      have hrl := length_rw ks a its N t HIN.out (by omega)
      have HRS := Lib.hid (rw_succ ks a its N t HIN.out hlt)
      have hln : (hd ks a its (t + 1)).length = 32 := length_hd ks a its (t + 1) ha (by have := HIN.out; omega)
      have HE1 := Lib.hid he.1
      have HE2 := Lib.hid he.2
      have HLB := Lib.hid hlb
      have HCH := Lib.hid hch
      clear hpc he het hit hlb hch
      generalize hnt : hd ks a its (t + 1) = nt at *
      have HNT := Lib.hid hnt
      clear hnt
      generalize hd ks a its t = ah at *
      generalize hrn : rw' ks a its N (t + 1) = rn at *
      have HRN := Lib.hid hrn
      clear hrn
      generalize rw' ks a its N t = rt at *
      generalize hib : ps[t].bs = ib at *
      clear hib
      obtain ⟨il, eil⟩ : ∃ il, il = ib.length := ⟨_, rfl⟩
      rw [← eil] at hbt HET HE1 cp
      have EIL := Lib.hid eil
      clear eil
      generalize ps[t].A = iA at *
      generalize ps[t].c = ic at *
      have wil : IntKind.u64.wrap (il : Int) = (il : Int) := by rw [IntKind.wrap_u64]; omega
      have hsl := fun W : World => sliceW o32 W ga 0
      have HIA : Go.RowKit.Hid (∀ W : World, (Instr.indexAt 35 (.slice (some ⟨gr, 0, none⟩) N N) (.int .i64 (t : Int))).run Tryd.prog W = .ok (.pointer (some ⟨gr, 32 * t, none⟩)) W) := Lib.hid (fun W => tag_at W gr N N t hlt)
      go_upto_region 7 with fail
      have ST : Go.RowKit.Hid (Holds wr.drew gx .u8 x ∧ Holds wr.drew gy .u8 y) := Lib.hid ⟨HCH.out.px.drew, HCH.out.py.drew⟩
      have CH1 := Lib.hid HCH.out.drew
      have Y1 : Go.RowKit.Hid (Bys wr.drew w.heap.size iA ib) := Lib.hid HE2.out
      have Lx : (Tryd.prog.info? 25).map (·.size) = some (nv .u8 x).length := by rw [length_nv, LI]; exact o64b.hi
      have Ly : (Tryd.prog.info? 25).map (·.size) = some (nv .u8 y).length := by rw [length_nv, LO]; exact o64b.hi
      clear HCH HE2 cp
      refine wp_region_held_drew (S := fun W => Holds W gx .u8 x ∧ Holds W gy .u8 y) (by kernel_rfl) ST.out (fun hHeld => ?_)
      clear ST
      generalize wr.drew = wq at *
      refine' wpAnyH_take (i := 0) (v := _) rfl (by kernel_rfl) (by kernel_rfl) (by kernel_rfl) (fun _ _ _ h => h) (yieldsIf_load_mid (by rfl) _ _ rfl _ _ rfl _ _ (fun _ hs => hs.1.1) o64b.hu rfl Lx) (by assumption) ?_
      try simp only [List.getElem_toArray, List.getElem_cons_zero, Act.put, List.setIfInBounds_toArray, List.set_cons_zero, List.set_cons_succ]
      refine' wpAnyH_take (i := 1) (v := _) rfl (by kernel_rfl) (by kernel_rfl) (by kernel_rfl) (fun _ _ _ h => h) (yieldsIf_load_mid (by rfl) _ _ rfl _ _ rfl _ _ (fun _ hs => hs.2.1) o64b.hu rfl Ly) (by assumption) ?_
      try simp only [List.getElem_toArray, List.getElem_cons_zero, List.getElem_cons_succ, Act.put, List.setIfInBounds_toArray, List.set_cons_zero, List.set_cons_succ]
      refine wpAnyH_take (i := 2) (v := ?_) rfl (by kernel_rfl) (by kernel_rfl) (by kernel_rfl) (fun _ _ _ h => h) (Or.inl ⟨by rfl, ?_⟩) (by assumption) ?_
      rotate_left
      · (intro wz hSw; go_simp; try with_reducible rfl)
      try simp only [List.getElem_toArray, List.getElem_cons_zero, List.getElem_cons_succ, Act.put, List.setIfInBounds_toArray, List.set_cons_zero, List.set_cons_succ]
      refine wpAnyH_take (i := 3) (v := ?_) rfl (by kernel_rfl) (by kernel_rfl) (by kernel_rfl) (fun _ _ _ h => h) (Or.inl ⟨by rfl, ?_⟩) (by assumption) ?_
      rotate_left
      · (intro wz hSw; go_simp; try with_reducible rfl)
      try simp only [List.getElem_toArray, List.getElem_cons_zero, List.getElem_cons_succ, Act.put, List.setIfInBounds_toArray, List.set_cons_zero, List.set_cons_succ]
      refine wpAnyH_take (i := 4) (v := ?_) rfl (by kernel_rfl) (by kernel_rfl) (by kernel_rfl) (fun _ _ _ h => h) (Or.inl ⟨by rfl, ?_⟩) (by assumption) ?_
      rotate_left
      · (intro wz hSw; go_simp; try with_reducible rfl)
      try simp only [List.getElem_toArray, List.getElem_cons_zero, List.getElem_cons_succ, Act.put, List.setIfInBounds_toArray, List.set_cons_zero, List.set_cons_succ]
      refine wpAnyH_take (i := 5) (v := ?_) rfl (by kernel_rfl) (by kernel_rfl) (by kernel_rfl) (fun _ _ _ h => h) (Or.inl ⟨by rfl, ?_⟩) (by assumption) ?_
      rotate_left
      · (intro wz hSw; go_simp; try with_reducible rfl)
      try simp only [List.getElem_toArray, List.getElem_cons_zero, List.getElem_cons_succ, Act.put, List.setIfInBounds_toArray, List.set_cons_zero, List.set_cons_succ]
      refine wpAnyH_take (i := 7) (v := ?_) rfl (by kernel_rfl) (by kernel_rfl) (by kernel_rfl) (fun _ _ _ h => h) (Or.inl ⟨by rfl, ?_⟩) (by assumption) ?_
      rotate_left
      · (intro wz hSw; go_simp; try with_reducible rfl)
      try simp only [List.getElem_toArray, List.getElem_cons_zero, List.getElem_cons_succ, Act.put, List.setIfInBounds_toArray, List.set_cons_zero, List.set_cons_succ]
      refine wpAnyH_ready (rs := [6]) (by kernel_rfl) (by simp) (AllReadyH.cons rfl (fun K hK => ?_) AllReadyH.nil)
      go_simp
      have hchq := CH1.out
      refine (put64_any il wq (HV.out.below hchq.bel (Nat.le_refl _)).vars.tab).mono ?_
      rintro e w7 ⟨arr, hla, rfl, hw7⟩
      rw [laid_all hla] at hw7
      have hB7 : Below wq.heap.size wq w7 := by rw [hw7]; exact below_alloc _ _
      have hch7 := hchq.next (by omega) (by omega) g3 hB7
      have hy7 : Holds w7 wq.heap.size .u8 (bytesOf il 8) := by rw [hw7]; exact Holds.new _ _ _ _
      have hi7 := (Y1.out.below (hB7.mono hchq.bel.size)).more hch7.bel.size
      refine hK.out _ _ ⟨hch7.px, hch7.py⟩ (fun hHeld2 => ?_)
      clear hHeld hK K hw7 hla hchq CH1 Y1 hB7; have hHeld := hHeld2; clear hHeld2
      try simp only [List.getElem_toArray, List.getElem_cons_zero, List.getElem_cons_succ, Act.put, List.setIfInBounds_toArray, List.set_cons_zero, List.set_cons_succ]
      generalize wq.heap.size = gp at *
      refine wpAnyH_ready (rs := [8]) (by kernel_rfl) (by simp) (AllReadyH.cons rfl (fun K hK => ?_) AllReadyH.nil)
      go_simp
      have hP8 := Parts.three w7 ah (bytesOf il 8) ib (some ⟨ga, 0, none⟩) (some ⟨gp, 0, none⟩) iA 32 32 8 8 il ic hlh (Nat.le_refl _) (bys_of_holds hch7.ah HLB.out) (length_bytesOf il 8) (Nat.le_refl _) (bys_of_holds hy7 (bytesOf_lt il 8)) EIL.out.symm HE1.out hi7
      have hch8 := hch7.next (by omega) (by omega) g3 (below_alloc w7 (.cells #[.slice (some ⟨ga, 0, none⟩) 32 32, .slice (some ⟨gp, 0, none⟩) 8 8, .slice iA il ic] 22))
      refine hK.out _ _ ⟨hch8.px, hch8.py⟩ (fun hHeld2 => ?_)
      clear hHeld hK K hch7 hy7 hi7; have hHeld := hHeld2; clear hHeld2
      try simp only [List.getElem_toArray, List.getElem_cons_zero, List.getElem_cons_succ, Act.put, List.setIfInBounds_toArray, List.set_cons_zero, List.set_cons_succ]
      generalize w7.alloc (.cells #[.slice (some ⟨ga, 0, none⟩) 32 32, .slice (some ⟨gp, 0, none⟩) 8 8, .slice iA il ic] 22) = w8 at *
      generalize w7.heap.size = gq at *
      refine wpAnyH_ready (rs := [9]) (by kernel_rfl) (by simp) (AllReadyH.cons rfl (fun K hK => ?_) AllReadyH.nil)
      go_simp
      have C9 := tagged_any x y LI LO IB.out OB.out _ (some ⟨gq, 0, none⟩) 3 3 rfl (fun h => by cases h) (by omega) (by rw [textThree, List.length_append, List.length_append, hlh, length_bytesOf, ← EIL.out]; omega) w8 hP8 (HV.out.below hch8.bel (Nat.le_refl _))
      rw [textThree, HET.out] at C9
      refine C9.mono ?_
      rintro e w9 ⟨rfl, hB9⟩
      have hch9 := hch8.next (by omega) (by omega) g3 hB9
      refine hK.out _ _ ⟨hch9.px, hch9.py⟩ (fun hHeld2 => ?_)
      clear hHeld hK K hch8 hP8 C9 hB9; have hHeld := hHeld2; clear hHeld2
      try simp only [List.getElem_toArray, List.getElem_cons_zero, List.getElem_cons_succ, Act.put, List.setIfInBounds_toArray, List.set_cons_zero, List.set_cons_succ]
      refine wpAnyH_ready (rs := [10]) (by kernel_rfl) (by simp) (AllReadyH.cons rfl (fun K hK => ?_) AllReadyH.nil)
      have hch10 := hch9.put g0 (by omega) (by omega) g3 nt (by rw [hln, hlh])
      refine step_store o32 rfl ga ah nt hlh hch9.ah hln (x := .tmp 10) (y := .tmp 38) rfl rfl rfl ?_
      refine hK.out _ _ ⟨hch10.px, hch10.py⟩ (fun _ => ?_)
      clear hHeld hK K hch9
      try simp only [List.getElem_toArray, List.getElem_cons_zero, List.getElem_cons_succ, Act.put]
      refine wpAnyH_done (by kernel_rfl) ?_ _
      generalize w9.setCells ga 0 (nv .u8 nt) = w10 at *
      have hpart := (Holds.at0 hch10.row).part (32 * t) 32 (by rw [hrl]; omega)
      rw [Nat.zero_add] at hpart
      have hpl : ((rt.drop (32 * t)).take 32).length = 32 := by simp; omega
      have hch11 := hch10.lay (by omega) g1 g2 g3 (32 * t) nt (by rw [hln, hrl]; omega)
      rw [HRS.out] at hch11
      have CH10 := Lib.hid hch10
      have CH11 := Lib.hid hch11
      have HPT := Lib.hid hpart
      clear hch10 hch11 hpart
      generalize (rt.drop (32 * t)).take 32 = old at *
      go_wp2_with (first | (with_reducible refine Arr.load o32 ga nt hln CH10.out.ah rfl ?_) | (with_reducible refine Arr.list_index (t := 35) (.slice (some ⟨gr, 0, none⟩) N N) (.int .i64 (t : Int)) (.pointer (some ⟨gr, 32 * t, none⟩)) rfl rfl (HIA.out _) ?_) | (with_reducible refine Arr.storeAt o32 gr (32 * t) old nt hpl HPT.out hln rfl rfl ?_) | fail)
      go_roundw
      case rel => exact ⟨t + 1, by omega, by go_num, by rw [HNT.out, HRN.out]; exact CH11.out⟩
      case measure => simp [intOf]; omega
    · obtain rfl : t = N := by omega
      have tt : decide ((t : Int) < (t : Int)) = false := by simp
      have hfl := length_fl ks a its t (by rw [HIN.out]; exact Nat.le_refl _)
      rw [rw_all] at hch
      have HCH := Lib.hid hch
      clear hch
      generalize fl ks a its t = f at *
      go_wp2
      go_ret
      exact ⟨gr, rfl, by omega, HCH.out.shp.all HCH.out.row hfl, HCH.out.bel⟩
end Go.Proofs.YtdfbhgajomdeeaaDoor
