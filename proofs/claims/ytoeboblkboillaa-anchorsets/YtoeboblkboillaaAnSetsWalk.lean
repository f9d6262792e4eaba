/-
  The walk of the law AnchorSets. Condition: the slice holds the pairs. (Written by tools/gen_ansets.py.)
-/
import Derived.Test.YtoeboblkboillaaAnAwake
import Derived.Test.YtoeboblkboillaaRowKeys
import Derived.Test.YtoeboblkboillaaHeldOne
namespace Go.Proofs.Ytoeboblkboillaa
open Go.RowKit Arr Go.Sort
set_option linter.unusedSimpArgs false

/-- The law answers true, and what was there is as it was. -/
def TrueS (w : World) (e : Ending) (w' : World) : Prop := e = .returned (.bool true) ∧ Below w.heap.size w w'
/-- Two roots that are held against each other yield the same in any world. -/
theorem yieldsIf_neqR {ops : Array Oper} {S : World → Prop} {op : Oper} {a : Act} {x y : Operand} {yt : TypeId} {X Y : Array Value} (b : Bool) (he : ∀ w, (Op.equalIn 10000 30 (.agg X) (.agg Y)).run Try.prog w = .ok b w)
    (hw : Region.wanted op (yielded ops a.tmps) = true) (ho : op.op = .binOp .neq 30 x y yt) (hx : a.eval x = .agg X) (hy : a.eval y = .agg Y) : YieldsIf Try.prog ops S op (.bool (!b)) a :=
  .inl ⟨hw, fun w _ => by
    unfold execOp
    have hg := fun X Y : Array Value => run_eqGuard_agg (P := Try.prog) w .neq 30 x y X Y (by kernel_rfl)
    simp only [ho, hx, hy, Sem.run_bind, Sem.run_pure, hg, Result.andThen_ok, run_neq_struct, he]⟩
/-- What stands between the rounds: the slot and the wanted root. -/
structure SetsAt (w0 : World) (g N0 n : Nat) (k s : List Nat) (m : Nat) (w : World) : Prop where
  bel : Below w0.heap.size w0 w
  slt : Slt w g n k s m
  want : HV w N0 (rc (n : Int) k s)
theorem SetsAt.later {w0 w w' : World} {g N0 n m : Nat} {k s : List Nat} (h : SetsAt w0 g N0 n k s m w) (hb : Below w.heap.size w w') : SetsAt w0 g N0 n k s m w' :=
  ⟨h.bel.trans (hb.mono h.bel.size), h.slt.below hb, h.want.below hb (block_lt_of_cell (h.want.cell 0 _ rfl))⟩
/-- A pair of arrays in a block. -/
theorem zPair : (Try.prog.info? 33).bind (·.zero) = some (.agg (na .u8 (zs 64))) := by kernel_rfl
theorem info_pair : (Try.prog.info? 33).map (·.size) = some 64 := by kernel_rfl
def pr (x y : List Nat) : List Value := nv .u8 x ++ nv .u8 y
theorem length_pr {x y : List Nat} (h : Two32 x y) : (pr x y).length = 64 := by simp [pr, length_nv, h.k, h.s]
theorem pr_one (x y : List Nat) : ∀ v ∈ pr x y, v.oneCell' = true := by
  intro v hv
  rcases List.mem_append.1 hv with hv | hv
  · exact nv_one _ _ v hv
  · exact nv_one _ _ v hv
/-- A pair is written. -/
theorem storeP {ops : Array Oper} {rest : List Oper} {dst : Option Tmp} {ty : TypeId} {pos : String} {after : Array Edge} {x y : Operand} {a : Act} {w : World} {Q : Exit → Act → World → Prop} (g : Nat) (k s : List Nat) (h2 : Two32 k s)
    (ht : w.there g 0 64) (hx : a.eval x = .pointer (some ⟨g, 0, none⟩)) (hy : a.eval y = .agg (pr k s).toArray) (h : wpList Try.prog ops Q rest (a.put dst undef) (w.setCells g 0 (pr k s))) :
    wpList Try.prog ops Q ({ dst := dst, op := .store 33 x y, type := ty, pos := pos, after := after, guard := none } :: rest) a w :=
  wpList_store_mid rfl _ x y rfl g 0 (pr k s).toArray hx hy (by rw [show (pr k s).toArray.size = 64 by simp [length_pr h2]]; exact ht) (by rw [show (pr k s).toArray.size = 64 by simp [length_pr h2]]; exact info_pair) (all_oneCell_toArray (pr_one k s)) (by simpa using h)
theorem HV.onlyV {w w' : World} {g b : Nat} {vs : List Value} (h : HV w b vs) (ho : Only g w w') (h1 : b < w.heap.size) (h2 : b ≠ g) : HV w' b vs :=
  ⟨fun j v hv => (ho.cell (p := ⟨b, 0 + j, none⟩) h1 h2).trans (h.1 j v hv), fun j hj => by
    rw [ho.cell (p := ⟨b, 0 + j, none⟩) h1 h2, ho.frozen (p := ⟨b, 0 + j, none⟩) h1 h2]; exact h.2 j hj⟩
theorem HV.fst {w : World} {g : Nat} {x y : List Nat} (h : HV w g (pr x y)) : HAt w g 0 .u8 x := by
  refine ⟨fun j v hv => h.1 j v ?_, fun j hj => h.2 j (by simp [pr, length_nv]; omega)⟩
  have hj : j < (nv .u8 x).length := (List.getElem?_eq_some_iff.1 hv).1
  unfold pr
  rw [List.getElem?_append_left hj]; exact hv
theorem HV.snd {w : World} {g : Nat} {x y : List Nat} (h : HV w g (pr x y)) (hx : x.length = 32) : HAt w g 32 .u8 y := by
  refine ⟨fun j v hv => ?_, fun j hj => ?_⟩
  · have := h.1 (32 + j) v (by
      unfold pr
      rw [List.getElem?_append_right (by rw [length_nv]; omega), length_nv, hx, Nat.add_sub_cancel_left]; exact hv)
    rwa [show 0 + (32 + j) = 32 + j by omega] at this
  · have := h.2 (32 + j) (by simp [pr, length_nv]; omega)
    rwa [show 0 + (32 + j) = 32 + j by omega] at this

set_option maxRecDepth 100000 in
set_option maxHeartbeats 8000000 in
theorem sets_walk (w : World) (key : List Nat) (hk : key.length = 32) (_hb : ∀ i, key.getD i 0 < 256) (z : Int) (_hz : (Lit.int .i64 z).wf = true) (A : Option Addr) (N c : Nat) (l : List (List Nat × List Nat)) (hl : l.length = N) (hN : N ≤ 9223372036854775807) (hp : Kps w w.heap.size A l) :
    Calls Try.prog 3 #[.agg (na .u8 key), .int .i64 z, .slice A N c] w (TrueS w) := by
  have mixed : Try.prog.follows .mixedOrders = true := by kernel_rfl
  obtain ⟨w1, hw1⟩ : ∃ w1, w1 = w.alloc (.cells (na .u8 key) 22) := ⟨_, rfl⟩
  obtain ⟨B, hB⟩ : ∃ B, B = w.heap.size := ⟨_, rfl⟩
  have g1 : Gr w w1 := hw1 ▸ (Gr.refl w).alloc (.cells (na .u8 key) 22)
  have HKY := Lib.hid (show ∀ W, Below w1.heap.size w1 W → HAt W B 0 .u8 key from fun W hW => by
    have h0 : Holds w1 B .u8 key := by rw [hw1, hB]; exact Holds.new w _ .u8 key
    exact (h0.below hW (by rw [hB, hw1]; simp)).at0)
  have B1 := Lib.hid g1.below
  have CA := Lib.hid (awake_any w1)
  have HP := Lib.hid hp
  have HL := Lib.hid hl
  have HNN := Lib.hid hN
  have HW1 := Lib.hid hw1.symm
  have HBB := Lib.hid hB.symm
  have T2 : Two32 key (zs 32) := ⟨hk, rfl⟩
  clear hp hl hN hw1 g1 hB
  go_enter Try.func3, Try.ntmps3
  go_wp2_with fail
  rw [HW1.out, HBB.out]
  refine CA.out.mono ?_
  rintro en w2 ⟨rfl, b2⟩
  have B2 := Lib.hid (B1.out.trans (b2.mono B1.out.size))
  have L2 := Lib.hid (HKY.out w2 b2)
  have HK2 := Lib.hid (show ∀ W, Below w2.heap.size w2 W → HAt W B 0 .u8 key from fun W hW => HKY.out W (b2.trans (hW.mono b2.size)))
  clear b2 CA HKY B1
  by_cases h100 : 100 < N
  · have t1 : decide ((N : Int) > 100) = true := decide_eq_true (by omega)
    go_wp2
    go_ret
    exact ⟨rfl, B2.out⟩
  have t0 : decide ((N : Int) > 100) = false := decide_eq_false (by omega)
  by_cases hz0 : z < 0
  · have C := Lib.hid (annew_low w2 key z hz0)
    have t1 : decide (z < 0) = true := decide_eq_true hz0
    go_wp2_with (first | (with_reducible refine Arr.loadAt key32 B 0 key hk L2.out rfl ?_) | fail)
    refine C.out.mono ?_
    rintro en w3 ⟨rfl, g3⟩
    have HE := Lib.hid (B2.out.trans (g3.below.mono B2.out.size))
    clear g3 C
    go_wp2
    go_ret
    exact ⟨rfl, HE.out⟩
  by_cases hz1 : 1099511627776 < z
  · have C := Lib.hid (annew_high w2 key z hz1)
    have t1 : decide (z < 0) = false := decide_eq_false hz0
    have t2 : decide (z > 1099511627776) = true := decide_eq_true hz1
    go_wp2_with (first | (with_reducible refine Arr.loadAt key32 B 0 key hk L2.out rfl ?_) | fail)
    refine C.out.mono ?_
    rintro en w3 ⟨rfl, g3⟩
    have HE := Lib.hid (B2.out.trans (g3.below.mono B2.out.size))
    clear g3 C
    go_wp2
    go_ret
    exact ⟨rfl, HE.out⟩
  obtain ⟨m, rfl⟩ : ∃ m : Nat, z = (m : Int) := ⟨z.toNat, by omega⟩
  have hm : m ≤ 1099511627776 := by omega
  have t1 : decide ((m : Int) < 0) = false := decide_eq_false hz0
  have t2 : decide ((m : Int) > 1099511627776) = false := decide_eq_false hz1
  have C := Lib.hid (annew_ok w2 key hk m hm)
  go_wp2_with (first | (with_reducible refine Arr.loadAt key32 B 0 key hk L2.out rfl ?_) | fail)
  refine C.out.mono ?_
  rintro en w3 ⟨v, rfl, g, rfl, hg, hs, hb3⟩
  obtain ⟨N0, hN0⟩ : ∃ N0, N0 = w3.heap.size := ⟨_, rfl⟩
  obtain ⟨w4, hw4⟩ : ∃ w4, w4 = w3.alloc (.cells (ra 0 (zs 32) (zs 32)) 30) := ⟨_, rfl⟩
  have n4 : HV w4 N0 (rc 0 (zs 32) (zs 32)) := by rw [hw4, hN0]; exact HV.new w3 30 (rc 0 (zs 32) (zs 32))
  have g4 : Gr w3 w4 := hw4 ▸ (Gr.refl w3).alloc _
  obtain ⟨wr, hwr⟩ : ∃ wr, wr = w4.setCells N0 0 (rc 0 key (zs 32)) := ⟨_, rfl⟩
  have nr : HV wr N0 (rc 0 key (zs 32)) := by rw [hwr]; exact HV.putV n4 (by rw [length_rc T2, length_rc two_zs])
  have gr : Gr w3 wr := hwr ▸ Gr.setCells (by omega) _ _ _ g4
  have L3 := Lib.hid (HK2.out w3 hb3)
  have T4 := Lib.hid (HV.there65 n4 two_zs)
  have NR := Lib.hid nr
  have B3 := B2.out.trans (hb3.mono B2.out.size)
  have E := Lib.hid (show SetsAt w g N0 0 key (zs 32) m wr from ⟨B3.trans (gr.below.mono B3.size), hs.below gr.below, nr⟩)
  have HGN := Lib.hid (show g < N0 ∧ w.heap.size ≤ g from ⟨by rw [hN0]; exact hs.lt, Nat.le_trans B2.out.size hg⟩)
  have HW4 := Lib.hid hw4.symm
  have HWR := Lib.hid hwr.symm
  have HN0 := Lib.hid hN0.symm
  have RE := fun W => run_eq_root W 0 0 key (zs 32) key (zs 32) T2 T2
  rw [show decide ((0 : Int) = 0 ∧ key = key ∧ zs 32 = zs 32) = true from decide_eq_true ⟨rfl, rfl, rfl⟩] at RE
  clear hw4 n4 g4 hwr nr gr B3 hN0 hg hs hb3 C HK2 L2 B2
  go_wp2_with (first | (with_reducible refine Arr.loadAt key32 B 0 key hk L3.out rfl ?_) | (with_reducible refine buildR1 key hk rfl rfl ?_) | (with_reducible refine Arr.alloc (t := 30) _ zRoot ?_; rw [HW4.out, HN0.out]) | (with_reducible refine storeR N0 _ _ _ T2 T4.out rfl rfl ?_; rw [HWR.out]) | fail)
  clear HW4 HWR HN0 T4 L3
  refine wp_region_L [(10, (fun w' : World => w'.rangeAt N0 0 (rc 0 key (zs 32))))] 14 #[false, false, false, false, false, false, false, false, false, false, false, false, false, false] (by kernel_rfl) (by rfl) (by kernel_rfl) (by intro p hp; simp only [List.mem_cons, List.not_mem_nil, or_false] at hp; subst hp; exact NR.out.1) (fun hHeld => ?_)
  have E0 := Lib.hid (E.out.later (below_drew (Below.refl wr.heap.size wr)))
  generalize wr.drew = wd at *
  refine wpAnyL_take (i := 0) (v := ?_) rfl (by kernel_rfl) (by kernel_rfl) (by kernel_rfl) (by rfl) (fun _ _ _ h => h) (Or.inl ⟨by rfl, ?_⟩) hHeld (fun hHeld2 => ?_)
  rotate_left
  · (intro wz hSw; go_simp; try with_reducible rfl)
  clear hHeld; have hHeld := hHeld2; clear hHeld2
  try simp only [List.getElem_toArray, List.getElem_cons_zero, List.getElem_cons_succ, Act.put, List.setIfInBounds_toArray, List.set_cons_zero, List.set_cons_succ]
  refine wpAnyL_take (i := 1) (v := ?_) rfl (by kernel_rfl) (by kernel_rfl) (by kernel_rfl) (by rfl) (fun _ _ _ h => h) (Or.inl ⟨by rfl, ?_⟩) hHeld (fun hHeld2 => ?_)
  rotate_left
  · (intro wz hSw; go_simp; try with_reducible rfl)
  clear hHeld; have hHeld := hHeld2; clear hHeld2
  try simp only [List.getElem_toArray, List.getElem_cons_zero, List.getElem_cons_succ, Act.put, List.setIfInBounds_toArray, List.set_cons_zero, List.set_cons_succ]
  refine wpAnyL_take (i := 2) (v := ?_) rfl (by kernel_rfl) (by kernel_rfl) (by kernel_rfl) (by rfl) (fun _ _ _ h => h) (Or.inl ⟨by rfl, ?_⟩) hHeld (fun hHeld2 => ?_)
  rotate_left
  · (intro wz hSw; go_simp; try with_reducible rfl)
  clear hHeld; have hHeld := hHeld2; clear hHeld2
  try simp only [List.getElem_toArray, List.getElem_cons_zero, List.getElem_cons_succ, Act.put, List.setIfInBounds_toArray, List.set_cons_zero, List.set_cons_succ]
  refine wpAnyL_take (i := 3) (v := ?_) rfl (by kernel_rfl) (by kernel_rfl) (by kernel_rfl) (by rfl) (fun _ _ _ h => h) (Or.inl ⟨by rfl, ?_⟩) hHeld (fun hHeld2 => ?_)
  rotate_left
  · (intro wz hSw; go_simp; try with_reducible rfl)
  clear hHeld; have hHeld := hHeld2; clear hHeld2
  try simp only [List.getElem_toArray, List.getElem_cons_zero, List.getElem_cons_succ, Act.put, List.setIfInBounds_toArray, List.set_cons_zero, List.set_cons_succ]
  refine wpAnyL_take (i := 5) (v := _) rfl (by kernel_rfl) (by kernel_rfl) (by kernel_rfl) (by rfl) (fun _ _ _ h => h) (yieldsIf_load_mid (by rfl) 30 _ rfl N0 0 rfl (rc 0 key (zs 32)) _ (fun _ hs => hs.get _ (List.Mem.head _) 13 (by kernel_rfl)) Try.underlying30 rfl (by rw [length_rc T2]; exact info_root)) hHeld (fun hHeld2 => ?_)
  clear hHeld; have hHeld := hHeld2; clear hHeld2
  try simp only [List.getElem_toArray, List.getElem_cons_zero, List.getElem_cons_succ, Act.put, List.setIfInBounds_toArray, List.set_cons_zero, List.set_cons_succ]
  have C1 := Lib.hid (show Calls Try.prog 6 #[.pointer (some ⟨g, 0, none⟩)] wd (GrP (.agg (ra 0 key (zs 32))) wd) from anget_any E0.out.slt (Nat.zero_le _))
  refine wpAnyL_oneW (i := 4) (by kernel_rfl) rfl (by rfl) hHeld (fun K hK => ?_)
  go_simp
  refine C1.out.mono ?_
  rintro en w1 ⟨rfl, g1⟩
  have E1 := Lib.hid (E0.out.later g1.below)
  clear g1 C1 E0
  refine hK.out _ _ (by intro p hp hl; simp only [List.mem_cons, List.not_mem_nil, or_false] at hp; subst hp; exact E1.out.want.1) (fun hHeld2 => ?_)
  clear hHeld hK K ; have hHeld := hHeld2; clear hHeld2
  try simp only [List.getElem_toArray, List.getElem_cons_zero, List.getElem_cons_succ, Act.put, List.setIfInBounds_toArray, List.set_cons_zero, List.set_cons_succ]
  refine wpAnyL_take (i := 6) (v := _) rfl (by kernel_rfl) (by kernel_rfl) (by kernel_rfl) (by rfl) (fun _ _ _ h => h) (yieldsIf_neqR true RE (by rfl) rfl rfl rfl) hHeld (fun hHeld2 => ?_)
  clear hHeld; have hHeld := hHeld2; clear hHeld2
  try simp only [List.getElem_toArray, List.getElem_cons_zero, List.getElem_cons_succ, Act.put, List.setIfInBounds_toArray, List.set_cons_zero, List.set_cons_succ]
  refine wpAnyL_take (i := 7) (v := ?_) rfl (by kernel_rfl) (by kernel_rfl) (by kernel_rfl) (by rfl) (fun _ _ _ h => h) (Or.inl ⟨by rfl, ?_⟩) hHeld (fun hHeld2 => ?_)
  rotate_left
  · (intro wz hSw; go_simp; try with_reducible rfl)
  clear hHeld; have hHeld := hHeld2; clear hHeld2
  try simp only [List.getElem_toArray, List.getElem_cons_zero, List.getElem_cons_succ, Act.put, List.setIfInBounds_toArray, List.set_cons_zero, List.set_cons_succ]
  refine wpAnyL_take (i := 8) (v := ?_) rfl (by kernel_rfl) (by kernel_rfl) (by kernel_rfl) (by rfl) (fun _ _ _ h => h) (Or.inl ⟨by rfl, ?_⟩) hHeld (fun hHeld2 => ?_)
  rotate_left
  · (intro wz hSw; go_simp; try with_reducible rfl)
  clear hHeld; have hHeld := hHeld2; clear hHeld2
  try simp only [List.getElem_toArray, List.getElem_cons_zero, List.getElem_cons_succ, Act.put, List.setIfInBounds_toArray, List.set_cons_zero, List.set_cons_succ]
  refine wpAnyL_take (i := 9) (v := ?_) rfl (by kernel_rfl) (by kernel_rfl) (by kernel_rfl) (by rfl) (fun _ _ _ h => h) (Or.inl ⟨by rfl, ?_⟩) hHeld (fun hHeld2 => ?_)
  rotate_left
  · (intro wz hSw; go_simp; try with_reducible rfl)
  clear hHeld; have hHeld := hHeld2; clear hHeld2
  try simp only [List.getElem_toArray, List.getElem_cons_zero, List.getElem_cons_succ, Act.put, List.setIfInBounds_toArray, List.set_cons_zero, List.set_cons_succ]
  refine wpAnyL_take (i := 11) (v := ?_) rfl (by kernel_rfl) (by kernel_rfl) (by kernel_rfl) (by rfl) (fun _ _ _ h => h) (Or.inl ⟨by rfl, ?_⟩) hHeld (fun hHeld2 => ?_)
  rotate_left
  · (intro wz hSw; go_simp; try with_reducible rfl)
  clear hHeld; have hHeld := hHeld2; clear hHeld2
  try simp only [List.getElem_toArray, List.getElem_cons_zero, List.getElem_cons_succ, Act.put, List.setIfInBounds_toArray, List.set_cons_zero, List.set_cons_succ]
  have C2 := Lib.hid (anlimit_any E1.out.slt)
  refine wpAnyL_oneW (i := 10) (by kernel_rfl) rfl (by rfl) hHeld (fun K hK => ?_)
  go_simp
  refine C2.out.mono ?_
  rintro en w2 ⟨rfl, rfl⟩
  refine hK.out _ _ (by intro p hp hl; simp only [List.mem_cons, List.not_mem_nil, or_false] at hp; subst hp; exact E1.out.want.1) (fun hHeld2 => ?_)
  clear hHeld hK K ; have hHeld := hHeld2; clear hHeld2
  try simp only [List.getElem_toArray, List.getElem_cons_zero, List.getElem_cons_succ, Act.put, List.setIfInBounds_toArray, List.set_cons_zero, List.set_cons_succ]
  refine wpAnyL_take (i := 12) (v := ?_) rfl (by kernel_rfl) (by kernel_rfl) (by kernel_rfl) (by rfl) (fun _ _ _ h => h) (Or.inl ⟨by rfl, ?_⟩) hHeld (fun hHeld2 => ?_)
  rotate_left
  · (intro wz hSw; go_simp; try with_reducible rfl)
  clear hHeld; have hHeld := hHeld2; clear hHeld2
  try simp only [List.getElem_toArray, List.getElem_cons_zero, List.getElem_cons_succ, Act.put, List.setIfInBounds_toArray, List.set_cons_zero, List.set_cons_succ]
  refine wpAnyL_take (i := 13) (v := ?_) rfl (by kernel_rfl) (by kernel_rfl) (by kernel_rfl) (by rfl) (fun _ _ _ h => h) (Or.inl ⟨by rfl, ?_⟩) hHeld (fun hHeld2 => ?_)
  rotate_left
  · (intro wz hSw; go_simp; try with_reducible rfl)
  clear hHeld; have hHeld := hHeld2; clear hHeld2
  try simp only [List.getElem_toArray, List.getElem_cons_zero, List.getElem_cons_succ, Act.put, List.setIfInBounds_toArray, List.set_cons_zero, List.set_cons_succ]
  refine wpAnyL_done (by kernel_rfl) ?_ _
  go_wp2
  clear hHeld C2 E
  have NSV := Lib.hid h100
  clear hz0 hz1 t1 t2 h100 RE
  go_loopw [55] (fun iv wr => ∃ (i n : Nat) (k s : List Nat), i ≤ N ∧ iv = .int .i64 i ∧ n ≤ i ∧ SetsAt w g N0 n k s m wr) (fun iv _ => N - (intOf iv).toNat)
  case atStart => exact ⟨0, 0, key, zs 32, Nat.zero_le _, rfl, Nat.le_refl _, E1.out⟩
  case round =>
    obtain ⟨i, n, k, s, hi, rfl, hni, hE⟩ := hrel
    have E := Lib.hid hE
    clear hE
    by_cases hlt : i < N
    · have hil : i < l.length := by rw [HL.out]; exact hlt
      have hiN : i ≤ 100 := by have := NSV.out; omega
      obtain ⟨b, off, rfl, hbB, hcs⟩ := HP.out.cells (by omega)
      obtain ⟨x, y, hxy⟩ : ∃ x y, l[i] = (x, y) := ⟨_, _, rfl⟩
      have hrow : wr.rangeAt b (off + i * 64) (pr x y) := fun j v hv => (E.out.bel.cell (p := ⟨b, off + i * 64 + j, none⟩) hbB).trans (hcs i hil j v (by rw [hxy]; exact hv))
      have h2 : Two32 x y := by
        have := HP.out.each l[i] (List.getElem_mem hil)
        rw [hxy] at this; exact this
      obtain ⟨X, hX⟩ : ∃ X, X = wr.heap.size := ⟨_, rfl⟩
      obtain ⟨w5, hw5⟩ : ∃ w5, w5 = wr.alloc (.cells (na .u8 (zs 64)) 33) := ⟨_, rfl⟩
      have n5 : HV w5 X (nv .u8 (zs 64)) := by rw [hw5, hX]; exact HV.new wr 33 (nv .u8 (zs 64))
      obtain ⟨w6, hw6⟩ : ∃ w6, w6 = w5.setCells X 0 (pr x y) := ⟨_, rfl⟩
      have n6 : HV w6 X (pr x y) := by rw [hw6]; exact HV.putV n5 (by rw [length_pr h2, length_nv]; rfl)
      have g5 : Gr wr w5 := hw5 ▸ (Gr.refl wr).alloc _
      have g6 : Gr wr w6 := hw6 ▸ Gr.setCells (by omega) _ _ _ g5
      have E6 := Lib.hid (E.out.later g6.below)
      have T5 := Lib.hid (show w5.there X 0 64 from by have := n5.2; rwa [length_nv] at this)
      have HRW := Lib.hid hrow
      have N6 := Lib.hid n6
      have LX6 := Lib.hid (HV.fst n6)
      have LY6 := Lib.hid (HV.snd n6 h2.k)
      have c6 : w6.cell? ⟨N0, 0, none⟩ = some (.int .i64 (n : Int)) := E6.out.want.cell 0 _ rfl
      have HXS := Lib.hid (show N0 < w6.heap.size ∧ g < w6.heap.size ∧ X < w6.heap.size ∧ X ≠ g ∧ X ≠ N0 ∧ w.heap.size ≤ w6.heap.size from by
        have q1 := E6.out.slt.lt
        have q2 : N0 < w6.heap.size := block_lt_of_cell c6
        have q3 : X < w6.heap.size := block_lt_of_cell (HV.cell n6 0 ((pr x y)[0]'(by rw [length_pr h2]; omega)) (List.getElem?_eq_getElem _))
        have q4 := E.out.slt.lt
        have q5 : N0 < wr.heap.size := block_lt_of_cell (E.out.want.cell 0 _ rfl)
        exact ⟨q2, q1, q3, by omega, by omega, E6.out.bel.size⟩)
      have HW5 := Lib.hid hw5.symm
      have HW6 := Lib.hid hw6.symm
      have HX := Lib.hid hX.symm
      have t3 : decide ((i : Int) < (N : Int)) = true := decide_eq_true (by omega)
      have wi : IntKind.i64.wrap ((i : Int) + 1) = (i : Int) + 1 := by rw [IntKind.wrap_i64]; omega
      have wn : IntKind.i64.wrap ((n : Int) + 1) = (n : Int) + 1 := by rw [IntKind.wrap_i64]; omega
      clear hw5 n5 hw6 n6 g5 g6 hX hrow hcs hxy E
      by_cases hnm : n < m
      · have t4 : decide (n < m) = true := decide_eq_true hnm
        obtain ⟨n', hn'⟩ : ∃ n', n' = n + 1 := ⟨_, rfl⟩
        have CS := Lib.hid (show Calls Try.prog 8 #[.pointer (some ⟨g, 0, none⟩), .agg (na .u8 x), .agg (na .u8 y)] w6 (SetP g n' x y m w6) from hn' ▸ anset_ok E6.out.slt (by omega) hnm x y h2)
        go_wp2_with (first | (with_reducible refine loadRow b (off + i * 64) (pr x y) _ HRW.out Try.underlying33 rfl (by rw [length_pr h2]; exact info_pair) rfl rfl ?_) | (with_reducible refine Arr.alloc (t := 33) _ zPair ?_; rw [HW5.out, HX.out]) | (with_reducible refine storeP X x y h2 T5.out rfl rfl ?_; rw [HW6.out]) | (with_reducible refine Arr.loadAt key32 X 0 x h2.k LX6.out rfl ?_) | (with_reducible refine Arr.loadAt key32 X 32 y h2.s LY6.out rfl ?_) | fail)
        refine CS.out.mono ?_
        rintro en w7 ⟨rfl, hs7, o7⟩
        have HS7 := Lib.hid hs7
        have HTW := Lib.hid E6.out.slt.two
        have W7 := Lib.hid (HV.onlyV E6.out.want o7 HXS.out.1 (by have := HGN.out.1; omega))
        have X7 := Lib.hid (HV.onlyV N6.out o7 HXS.out.2.2.1 HXS.out.2.2.2.1)
        have B7 := Lib.hid (E6.out.bel.trans (o7.below HGN.out.2 HXS.out.2.2.2.2.2))
        have Z7 := Lib.hid o7.size
        have HN' := Lib.hid hn'
        have CC := Lib.hid (ancan_any hs7 (by omega))
        clear hs7 o7 CS LX6 LY6 N6 E6 T5 HRW HW5 HW6 c6 hn'
        have t5 : decide (m ≤ n) = false := decide_eq_false (by omega)
        by_cases hbb : n' < m
        · have hcc : decide (n' < m) = true := decide_eq_true hbb
          rw [hcc] at CC
          go_wp2_with fail
          refine CC.out.mono ?_
          rintro en w8 ⟨rfl, q8, os8, hw8⟩
          have hb8 : Below w7.heap.size w7 w8 := by rw [hw8]; exact below_grow w7 q8 os8
          have X8 := X7.out.below hb8 (Nat.lt_of_lt_of_le HXS.out.2.2.1 Z7.out)
          have W8 := W7.out.below hb8 (Nat.lt_of_lt_of_le HXS.out.1 Z7.out)
          have S8 := HS7.out.below hb8
          obtain ⟨we, hwe⟩ : ∃ we, we = w8.setCells N0 0 (rc ((n : Int) + 1) x y) := ⟨_, rfl⟩
          have ne : HV we N0 (rc ((n' : Nat) : Int) x y) := by
            rw [hwe, show ((n' : Nat) : Int) = (n : Int) + 1 by have := HN'.out; omega]
            exact HV.putV W8 (by rw [length_rc h2, length_rc HTW.out])
          have E := Lib.hid (show SetsAt w g N0 n' x y m we from ⟨by
            rw [hwe]
            exact (B7.out.trans (hb8.mono B7.out.size)).trans ((Only.refl N0 w8).setCells _ _ |>.below (by have := HGN.out; omega) (Nat.le_trans B7.out.size hb8.size)), ⟨h2, by rw [hwe]; exact HV.apart S8.hv _ _ _ (by have := HGN.out.1; omega)⟩, ne⟩)
          have c8 : w8.cell? ⟨N0, 0, none⟩ = some (.int .i64 (n : Int)) := W8.cell 0 _ rfl
          have T8 := Lib.hid (HV.there65 W8 HTW.out)
          have LX8 := Lib.hid (HV.fst X8)
          have LY8 := Lib.hid (HV.snd X8 h2.k)
          have HWE := Lib.hid hwe.symm
          clear hw8 hb8 X8 W8 S8 hwe ne CC X7 W7 HS7 B7 Z7
          go_wp2_with (first | (with_reducible refine Arr.loadAt key32 X 0 x h2.k LX8.out rfl ?_) | (with_reducible refine Arr.loadAt key32 X 32 y h2.s LY8.out rfl ?_) | (with_reducible refine buildR3 _ x y h2 rfl rfl rfl rfl ?_) | (with_reducible refine storeR N0 _ _ _ h2 T8.out rfl rfl ?_; rw [HWE.out]) | fail)
          clear LX8 LY8 T8 HWE c8
          have LE := Lib.hid (show n' ≤ i + 1 from by have := HN'.out; omega)
          refine wp_region_L [(11, (fun w' : World => w'.rangeAt N0 0 (rc ((n' : Nat) : Int) x y)))] 13 #[false, false, false, false, false, false, false, false, false, false, false, false, false] (by kernel_rfl) (by rfl) (by kernel_rfl) (by intro p hp; simp only [List.mem_cons, List.not_mem_nil, or_false] at hp; subst hp; exact E.out.want.1) (fun hHeld => ?_)
          have E0 := Lib.hid (E.out.later (below_drew (Below.refl we.heap.size we)))
          generalize we.drew = wd at *
          refine wpAnyL_take (i := 0) (v := ?_) rfl (by kernel_rfl) (by kernel_rfl) (by kernel_rfl) (by rfl) (fun _ _ _ h => h) (Or.inl ⟨by rfl, ?_⟩) hHeld (fun hHeld2 => ?_)
          rotate_left
          · (intro wz hSw; go_simp; try with_reducible rfl)
          clear hHeld; have hHeld := hHeld2; clear hHeld2
          try simp only [List.getElem_toArray, List.getElem_cons_zero, List.getElem_cons_succ, Act.put, List.setIfInBounds_toArray, List.set_cons_zero, List.set_cons_succ]
          refine wpAnyL_take (i := 2) (v := _) rfl (by kernel_rfl) (by kernel_rfl) (by kernel_rfl) (by rfl) (fun _ _ _ h => h) (yieldsIf_load_mid (by rfl) 30 _ rfl N0 0 rfl (rc ((n' : Nat) : Int) x y) _ (fun _ hs => hs.get _ (List.Mem.head _) 12 (by kernel_rfl)) Try.underlying30 rfl (by rw [length_rc E0.out.slt.two]; exact info_root)) hHeld (fun hHeld2 => ?_)
          clear hHeld; have hHeld := hHeld2; clear hHeld2
          try simp only [List.getElem_toArray, List.getElem_cons_zero, List.getElem_cons_succ, Act.put, List.setIfInBounds_toArray, List.set_cons_zero, List.set_cons_succ]
          have RE := fun W => run_eq_root W ((n' : Nat) : Int) ((n' : Nat) : Int) x y x y E0.out.slt.two E0.out.slt.two
          rw [show decide (((n' : Nat) : Int) = ((n' : Nat) : Int) ∧ x = x ∧ y = y) = true from decide_eq_true ⟨rfl, rfl, rfl⟩] at RE
          have C1 := Lib.hid (anget_any E0.out.slt (by have := LE.out; omega))
          refine wpAnyL_oneW (i := 1) (by kernel_rfl) rfl (by rfl) hHeld (fun K hK => ?_)
          go_simp
          refine C1.out.mono ?_
          rintro en w1' ⟨rfl, g1⟩
          have E1 := Lib.hid (E0.out.later g1.below)
          clear g1 C1 E0
          refine hK.out _ _ (by intro p hp hl; simp only [List.mem_cons, List.not_mem_nil, or_false] at hp; subst hp; exact E1.out.want.1) (fun hHeld2 => ?_)
          clear hHeld hK K ; have hHeld := hHeld2; clear hHeld2
          try simp only [List.getElem_toArray, List.getElem_cons_zero, List.getElem_cons_succ, Act.put, List.setIfInBounds_toArray, List.set_cons_zero, List.set_cons_succ]
          refine wpAnyL_take (i := 3) (v := _) rfl (by kernel_rfl) (by kernel_rfl) (by kernel_rfl) (by rfl) (fun _ _ _ h => h) (yieldsIf_neqR true RE (by rfl) rfl rfl rfl) hHeld (fun hHeld2 => ?_)
          clear hHeld; have hHeld := hHeld2; clear hHeld2
          try simp only [List.getElem_toArray, List.getElem_cons_zero, List.getElem_cons_succ, Act.put, List.setIfInBounds_toArray, List.set_cons_zero, List.set_cons_succ]
          refine wpAnyL_take (i := 4) (v := ?_) rfl (by kernel_rfl) (by kernel_rfl) (by kernel_rfl) (by rfl) (fun _ _ _ h => h) (Or.inl ⟨by rfl, ?_⟩) hHeld (fun hHeld2 => ?_)
          rotate_left
          · (intro wz hSw; go_simp; try with_reducible rfl)
          clear hHeld; have hHeld := hHeld2; clear hHeld2
          try simp only [List.getElem_toArray, List.getElem_cons_zero, List.getElem_cons_succ, Act.put, List.setIfInBounds_toArray, List.set_cons_zero, List.set_cons_succ]
          refine wpAnyL_take (i := 5) (v := ?_) rfl (by kernel_rfl) (by kernel_rfl) (by kernel_rfl) (by rfl) (fun _ _ _ h => h) (Or.inl ⟨by rfl, ?_⟩) hHeld (fun hHeld2 => ?_)
          rotate_left
          · (intro wz hSw; go_simp; try with_reducible rfl)
          clear hHeld; have hHeld := hHeld2; clear hHeld2
          try simp only [List.getElem_toArray, List.getElem_cons_zero, List.getElem_cons_succ, Act.put, List.setIfInBounds_toArray, List.set_cons_zero, List.set_cons_succ]
          refine wpAnyL_take (i := 7) (v := ?_) rfl (by kernel_rfl) (by kernel_rfl) (by kernel_rfl) (by rfl) (fun _ _ _ h => h) (Or.inl ⟨by rfl, ?_⟩) hHeld (fun hHeld2 => ?_)
          rotate_left
          · (intro wz hSw; go_simp; try with_reducible rfl)
          clear hHeld; have hHeld := hHeld2; clear hHeld2
          try simp only [List.getElem_toArray, List.getElem_cons_zero, List.getElem_cons_succ, Act.put, List.setIfInBounds_toArray, List.set_cons_zero, List.set_cons_succ]
          have hq0 : ∀ W : World, W.rangeAt N0 0 (rc ((n' : Nat) : Int) x y) → W.cell? ⟨N0, 0, none⟩ = some (.int .i64 ((n' : Nat) : Int)) := fun W h => h 0 _ rfl
          refine wpAnyL_take (i := 8) (v := ?_) rfl (by kernel_rfl) (by kernel_rfl) (by kernel_rfl) (by rfl) (fun _ _ _ h => h) (Or.inl ⟨by rfl, ?_⟩) hHeld (fun hHeld2 => ?_)
          rotate_left
          · (intro wz hSw; have hc := hq0 wz (hSw.get _ (List.Mem.head _) 12 (by kernel_rfl)); go_simp; try with_reducible rfl)
          clear hHeld; have hHeld := hHeld2; clear hHeld2
          try simp only [List.getElem_toArray, List.getElem_cons_zero, List.getElem_cons_succ, Act.put, List.setIfInBounds_toArray, List.set_cons_zero, List.set_cons_succ]
          refine wpAnyL_take (i := 9) (v := ?_) rfl (by kernel_rfl) (by kernel_rfl) (by kernel_rfl) (by rfl) (fun _ _ _ h => h) (Or.inl ⟨by rfl, ?_⟩) hHeld (fun hHeld2 => ?_)
          rotate_left
          · (intro wz hSw; go_simp; try with_reducible rfl)
          clear hHeld; have hHeld := hHeld2; clear hHeld2
          try simp only [List.getElem_toArray, List.getElem_cons_zero, List.getElem_cons_succ, Act.put, List.setIfInBounds_toArray, List.set_cons_zero, List.set_cons_succ]
          refine wpAnyL_take (i := 10) (v := ?_) rfl (by kernel_rfl) (by kernel_rfl) (by kernel_rfl) (by rfl) (fun _ _ _ h => h) (Or.inl ⟨by rfl, ?_⟩) hHeld (fun hHeld2 => ?_)
          rotate_left
          · (intro wz hSw; go_simp; try with_reducible rfl)
          clear hHeld; have hHeld := hHeld2; clear hHeld2
          try simp only [List.getElem_toArray, List.getElem_cons_zero, List.getElem_cons_succ, Act.put, List.setIfInBounds_toArray, List.set_cons_zero, List.set_cons_succ]
          have C2 := Lib.hid (ancan_any E1.out.slt (by have := LE.out; omega))
          refine wpAnyL_oneW (i := 6) (by kernel_rfl) rfl (by rfl) hHeld (fun K hK => ?_)
          go_simp
          refine C2.out.mono ?_
          rintro en w2' ⟨rfl, q2, os2, hw2⟩
          have E2 := Lib.hid (E1.out.later (hw2 ▸ below_grow w1' q2 os2))
          clear C2 hw2
          refine hK.out _ _ (by intro p hp hl; simp only [List.mem_cons, List.not_mem_nil, or_false] at hp; subst hp; exact E2.out.want.1) (fun hHeld2 => ?_)
          clear hHeld hK K ; have hHeld := hHeld2; clear hHeld2
          try simp only [List.getElem_toArray, List.getElem_cons_zero, List.getElem_cons_succ, Act.put, List.setIfInBounds_toArray, List.set_cons_zero, List.set_cons_succ]
          refine wpAnyL_oneW (i := 11) (by kernel_rfl) rfl (by rfl) hHeld (fun K hK => ?_)
          go_simp
          refine hK.out _ _ (by intro p hp hl; simp only [List.mem_cons, List.not_mem_nil, or_false] at hp; subst hp; exact E2.out.want.1) (fun hHeld2 => ?_)
          clear hHeld hK K ; have hHeld := hHeld2; clear hHeld2
          try simp only [List.getElem_toArray, List.getElem_cons_zero, List.getElem_cons_succ, Act.put, List.setIfInBounds_toArray, List.set_cons_zero, List.set_cons_succ]
          refine wpAnyL_take (i := 12) (v := ?_) rfl (by kernel_rfl) (by kernel_rfl) (by kernel_rfl) (by rfl) (fun _ _ _ h => h) (Or.inl ⟨by rfl, ?_⟩) hHeld (fun hHeld2 => ?_)
          rotate_left
          · (intro wz hSw; go_simp; try with_reducible rfl)
          clear hHeld; have hHeld := hHeld2; clear hHeld2
          try simp only [List.getElem_toArray, List.getElem_cons_zero, List.getElem_cons_succ, Act.put, List.setIfInBounds_toArray, List.set_cons_zero, List.set_cons_succ]
          refine wpAnyL_done (by kernel_rfl) ?_ _
          go_wp2
          go_roundw
          case rel => exact ⟨i + 1, n', x, y, by omega, by go_num, LE.out, E2.out⟩
          case measure => simp [intOf]; omega
        · have hcc : decide (n' < m) = false := decide_eq_false hbb
          rw [hcc] at CC
          go_wp2_with fail
          refine CC.out.mono ?_
          rintro en w8 ⟨rfl, q8, os8, hw8⟩
          have hb8 : Below w7.heap.size w7 w8 := by rw [hw8]; exact below_grow w7 q8 os8
          have X8 := X7.out.below hb8 (Nat.lt_of_lt_of_le HXS.out.2.2.1 Z7.out)
          have W8 := W7.out.below hb8 (Nat.lt_of_lt_of_le HXS.out.1 Z7.out)
          have S8 := HS7.out.below hb8
          obtain ⟨we, hwe⟩ : ∃ we, we = w8.setCells N0 0 (rc ((n : Int) + 1) x y) := ⟨_, rfl⟩
          have ne : HV we N0 (rc ((n' : Nat) : Int) x y) := by
            rw [hwe, show ((n' : Nat) : Int) = (n : Int) + 1 by have := HN'.out; omega]
            exact HV.putV W8 (by rw [length_rc h2, length_rc HTW.out])
          have E := Lib.hid (show SetsAt w g N0 n' x y m we from ⟨by
            rw [hwe]
            exact (B7.out.trans (hb8.mono B7.out.size)).trans ((Only.refl N0 w8).setCells _ _ |>.below (by have := HGN.out; omega) (Nat.le_trans B7.out.size hb8.size)), ⟨h2, by rw [hwe]; exact HV.apart S8.hv _ _ _ (by have := HGN.out.1; omega)⟩, ne⟩)
          have c8 : w8.cell? ⟨N0, 0, none⟩ = some (.int .i64 (n : Int)) := W8.cell 0 _ rfl
          have T8 := Lib.hid (HV.there65 W8 HTW.out)
          have LX8 := Lib.hid (HV.fst X8)
          have LY8 := Lib.hid (HV.snd X8 h2.k)
          have HWE := Lib.hid hwe.symm
          clear hw8 hb8 X8 W8 S8 hwe ne CC X7 W7 HS7 B7 Z7
          go_wp2_with (first | (with_reducible refine Arr.loadAt key32 X 0 x h2.k LX8.out rfl ?_) | (with_reducible refine Arr.loadAt key32 X 32 y h2.s LY8.out rfl ?_) | (with_reducible refine buildR3 _ x y h2 rfl rfl rfl rfl ?_) | (with_reducible refine storeR N0 _ _ _ h2 T8.out rfl rfl ?_; rw [HWE.out]) | fail)
          clear LX8 LY8 T8 HWE c8
          have LE := Lib.hid (show n' ≤ i + 1 from by have := HN'.out; omega)
          refine wp_region_L [(11, (fun w' : World => w'.rangeAt N0 0 (rc ((n' : Nat) : Int) x y)))] 13 #[false, false, false, false, false, false, false, false, false, false, false, false, false] (by kernel_rfl) (by rfl) (by kernel_rfl) (by intro p hp; simp only [List.mem_cons, List.not_mem_nil, or_false] at hp; subst hp; exact E.out.want.1) (fun hHeld => ?_)
          have E0 := Lib.hid (E.out.later (below_drew (Below.refl we.heap.size we)))
          generalize we.drew = wd at *
          refine wpAnyL_take (i := 0) (v := ?_) rfl (by kernel_rfl) (by kernel_rfl) (by kernel_rfl) (by rfl) (fun _ _ _ h => h) (Or.inl ⟨by rfl, ?_⟩) hHeld (fun hHeld2 => ?_)
          rotate_left
          · (intro wz hSw; go_simp; try with_reducible rfl)
          clear hHeld; have hHeld := hHeld2; clear hHeld2
          try simp only [List.getElem_toArray, List.getElem_cons_zero, List.getElem_cons_succ, Act.put, List.setIfInBounds_toArray, List.set_cons_zero, List.set_cons_succ]
          refine wpAnyL_take (i := 2) (v := _) rfl (by kernel_rfl) (by kernel_rfl) (by kernel_rfl) (by rfl) (fun _ _ _ h => h) (yieldsIf_load_mid (by rfl) 30 _ rfl N0 0 rfl (rc ((n' : Nat) : Int) x y) _ (fun _ hs => hs.get _ (List.Mem.head _) 12 (by kernel_rfl)) Try.underlying30 rfl (by rw [length_rc E0.out.slt.two]; exact info_root)) hHeld (fun hHeld2 => ?_)
          clear hHeld; have hHeld := hHeld2; clear hHeld2
          try simp only [List.getElem_toArray, List.getElem_cons_zero, List.getElem_cons_succ, Act.put, List.setIfInBounds_toArray, List.set_cons_zero, List.set_cons_succ]
          have RE := fun W => run_eq_root W ((n' : Nat) : Int) ((n' : Nat) : Int) x y x y E0.out.slt.two E0.out.slt.two
          rw [show decide (((n' : Nat) : Int) = ((n' : Nat) : Int) ∧ x = x ∧ y = y) = true from decide_eq_true ⟨rfl, rfl, rfl⟩] at RE
          have C1 := Lib.hid (anget_any E0.out.slt (by have := LE.out; omega))
          refine wpAnyL_oneW (i := 1) (by kernel_rfl) rfl (by rfl) hHeld (fun K hK => ?_)
          go_simp
          refine C1.out.mono ?_
          rintro en w1' ⟨rfl, g1⟩
          have E1 := Lib.hid (E0.out.later g1.below)
          clear g1 C1 E0
          refine hK.out _ _ (by intro p hp hl; simp only [List.mem_cons, List.not_mem_nil, or_false] at hp; subst hp; exact E1.out.want.1) (fun hHeld2 => ?_)
          clear hHeld hK K ; have hHeld := hHeld2; clear hHeld2
          try simp only [List.getElem_toArray, List.getElem_cons_zero, List.getElem_cons_succ, Act.put, List.setIfInBounds_toArray, List.set_cons_zero, List.set_cons_succ]
          refine wpAnyL_take (i := 3) (v := _) rfl (by kernel_rfl) (by kernel_rfl) (by kernel_rfl) (by rfl) (fun _ _ _ h => h) (yieldsIf_neqR true RE (by rfl) rfl rfl rfl) hHeld (fun hHeld2 => ?_)
          clear hHeld; have hHeld := hHeld2; clear hHeld2
          try simp only [List.getElem_toArray, List.getElem_cons_zero, List.getElem_cons_succ, Act.put, List.setIfInBounds_toArray, List.set_cons_zero, List.set_cons_succ]
          refine wpAnyL_take (i := 4) (v := ?_) rfl (by kernel_rfl) (by kernel_rfl) (by kernel_rfl) (by rfl) (fun _ _ _ h => h) (Or.inl ⟨by rfl, ?_⟩) hHeld (fun hHeld2 => ?_)
          rotate_left
          · (intro wz hSw; go_simp; try with_reducible rfl)
          clear hHeld; have hHeld := hHeld2; clear hHeld2
          try simp only [List.getElem_toArray, List.getElem_cons_zero, List.getElem_cons_succ, Act.put, List.setIfInBounds_toArray, List.set_cons_zero, List.set_cons_succ]
          refine wpAnyL_take (i := 5) (v := ?_) rfl (by kernel_rfl) (by kernel_rfl) (by kernel_rfl) (by rfl) (fun _ _ _ h => h) (Or.inl ⟨by rfl, ?_⟩) hHeld (fun hHeld2 => ?_)
          rotate_left
          · (intro wz hSw; go_simp; try with_reducible rfl)
          clear hHeld; have hHeld := hHeld2; clear hHeld2
          try simp only [List.getElem_toArray, List.getElem_cons_zero, List.getElem_cons_succ, Act.put, List.setIfInBounds_toArray, List.set_cons_zero, List.set_cons_succ]
          refine wpAnyL_take (i := 7) (v := ?_) rfl (by kernel_rfl) (by kernel_rfl) (by kernel_rfl) (by rfl) (fun _ _ _ h => h) (Or.inl ⟨by rfl, ?_⟩) hHeld (fun hHeld2 => ?_)
          rotate_left
          · (intro wz hSw; go_simp; try with_reducible rfl)
          clear hHeld; have hHeld := hHeld2; clear hHeld2
          try simp only [List.getElem_toArray, List.getElem_cons_zero, List.getElem_cons_succ, Act.put, List.setIfInBounds_toArray, List.set_cons_zero, List.set_cons_succ]
          have hq0 : ∀ W : World, W.rangeAt N0 0 (rc ((n' : Nat) : Int) x y) → W.cell? ⟨N0, 0, none⟩ = some (.int .i64 ((n' : Nat) : Int)) := fun W h => h 0 _ rfl
          refine wpAnyL_take (i := 8) (v := ?_) rfl (by kernel_rfl) (by kernel_rfl) (by kernel_rfl) (by rfl) (fun _ _ _ h => h) (Or.inl ⟨by rfl, ?_⟩) hHeld (fun hHeld2 => ?_)
          rotate_left
          · (intro wz hSw; have hc := hq0 wz (hSw.get _ (List.Mem.head _) 12 (by kernel_rfl)); go_simp; try with_reducible rfl)
          clear hHeld; have hHeld := hHeld2; clear hHeld2
          try simp only [List.getElem_toArray, List.getElem_cons_zero, List.getElem_cons_succ, Act.put, List.setIfInBounds_toArray, List.set_cons_zero, List.set_cons_succ]
          refine wpAnyL_take (i := 9) (v := ?_) rfl (by kernel_rfl) (by kernel_rfl) (by kernel_rfl) (by rfl) (fun _ _ _ h => h) (Or.inl ⟨by rfl, ?_⟩) hHeld (fun hHeld2 => ?_)
          rotate_left
          · (intro wz hSw; go_simp; try with_reducible rfl)
          clear hHeld; have hHeld := hHeld2; clear hHeld2
          try simp only [List.getElem_toArray, List.getElem_cons_zero, List.getElem_cons_succ, Act.put, List.setIfInBounds_toArray, List.set_cons_zero, List.set_cons_succ]
          refine wpAnyL_take (i := 10) (v := ?_) rfl (by kernel_rfl) (by kernel_rfl) (by kernel_rfl) (by rfl) (fun _ _ _ h => h) (Or.inl ⟨by rfl, ?_⟩) hHeld (fun hHeld2 => ?_)
          rotate_left
          · (intro wz hSw; go_simp; try with_reducible rfl)
          clear hHeld; have hHeld := hHeld2; clear hHeld2
          try simp only [List.getElem_toArray, List.getElem_cons_zero, List.getElem_cons_succ, Act.put, List.setIfInBounds_toArray, List.set_cons_zero, List.set_cons_succ]
          have C2 := Lib.hid (ancan_any E1.out.slt (by have := LE.out; omega))
          refine wpAnyL_oneW (i := 6) (by kernel_rfl) rfl (by rfl) hHeld (fun K hK => ?_)
          go_simp
          refine C2.out.mono ?_
          rintro en w2' ⟨rfl, q2, os2, hw2⟩
          have E2 := Lib.hid (E1.out.later (hw2 ▸ below_grow w1' q2 os2))
          clear C2 hw2
          refine hK.out _ _ (by intro p hp hl; simp only [List.mem_cons, List.not_mem_nil, or_false] at hp; subst hp; exact E2.out.want.1) (fun hHeld2 => ?_)
          clear hHeld hK K ; have hHeld := hHeld2; clear hHeld2
          try simp only [List.getElem_toArray, List.getElem_cons_zero, List.getElem_cons_succ, Act.put, List.setIfInBounds_toArray, List.set_cons_zero, List.set_cons_succ]
          refine wpAnyL_oneW (i := 11) (by kernel_rfl) rfl (by rfl) hHeld (fun K hK => ?_)
          go_simp
          refine hK.out _ _ (by intro p hp hl; simp only [List.mem_cons, List.not_mem_nil, or_false] at hp; subst hp; exact E2.out.want.1) (fun hHeld2 => ?_)
          clear hHeld hK K ; have hHeld := hHeld2; clear hHeld2
          try simp only [List.getElem_toArray, List.getElem_cons_zero, List.getElem_cons_succ, Act.put, List.setIfInBounds_toArray, List.set_cons_zero, List.set_cons_succ]
          refine wpAnyL_take (i := 12) (v := ?_) rfl (by kernel_rfl) (by kernel_rfl) (by kernel_rfl) (by rfl) (fun _ _ _ h => h) (Or.inl ⟨by rfl, ?_⟩) hHeld (fun hHeld2 => ?_)
          rotate_left
          · (intro wz hSw; go_simp; try with_reducible rfl)
          clear hHeld; have hHeld := hHeld2; clear hHeld2
          try simp only [List.getElem_toArray, List.getElem_cons_zero, List.getElem_cons_succ, Act.put, List.setIfInBounds_toArray, List.set_cons_zero, List.set_cons_succ]
          refine wpAnyL_done (by kernel_rfl) ?_ _
          go_wp2
          go_roundw
          case rel => exact ⟨i + 1, n', x, y, by omega, by go_num, LE.out, E2.out⟩
          case measure => simp [intOf]; omega
      · have t4 : decide (n < m) = false := decide_eq_false hnm
        have CS := Lib.hid (anset_full E6.out.slt (by omega) hnm x y)
        go_wp2_with (first | (with_reducible refine loadRow b (off + i * 64) (pr x y) _ HRW.out Try.underlying33 rfl (by rw [length_pr h2]; exact info_pair) rfl rfl ?_) | (with_reducible refine Arr.alloc (t := 33) _ zPair ?_; rw [HW5.out, HX.out]) | (with_reducible refine storeP X x y h2 T5.out rfl rfl ?_; rw [HW6.out]) | (with_reducible refine Arr.loadAt key32 X 0 x h2.k LX6.out rfl ?_) | (with_reducible refine Arr.loadAt key32 X 32 y h2.s LY6.out rfl ?_) | fail)
        refine CS.out.mono ?_
        rintro en w7 ⟨rfl, q7, os7, hw7⟩
        have E7 := Lib.hid (E6.out.later (hw7 ▸ below_grow w6 q7 os7))
        have CC := Lib.hid (ancan_any E7.out.slt (by omega))
        rw [t4] at CC
        clear hw7 CS LX6 LY6 N6 E6 T5 HRW HW5 HW6 c6
        go_wp2_with fail
        refine CC.out.mono ?_
        rintro en we ⟨rfl, q8, os8, hw8⟩
        have E := Lib.hid (E7.out.later (hw8 ▸ below_grow w7 q8 os8))
        clear hw8 CC E7
        go_wp2_with fail
        have LE := Lib.hid (show n ≤ i + 1 from by omega)
        refine wp_region_L [(11, (fun w' : World => w'.rangeAt N0 0 (rc ((n : Nat) : Int) k s)))] 13 #[false, false, false, false, false, false, false, false, false, false, false, false, false] (by kernel_rfl) (by rfl) (by kernel_rfl) (by intro p hp; simp only [List.mem_cons, List.not_mem_nil, or_false] at hp; subst hp; exact E.out.want.1) (fun hHeld => ?_)
        have E0 := Lib.hid (E.out.later (below_drew (Below.refl we.heap.size we)))
        generalize we.drew = wd at *
        refine wpAnyL_take (i := 0) (v := ?_) rfl (by kernel_rfl) (by kernel_rfl) (by kernel_rfl) (by rfl) (fun _ _ _ h => h) (Or.inl ⟨by rfl, ?_⟩) hHeld (fun hHeld2 => ?_)
        rotate_left
        · (intro wz hSw; go_simp; try with_reducible rfl)
        clear hHeld; have hHeld := hHeld2; clear hHeld2
        try simp only [List.getElem_toArray, List.getElem_cons_zero, List.getElem_cons_succ, Act.put, List.setIfInBounds_toArray, List.set_cons_zero, List.set_cons_succ]
        refine wpAnyL_take (i := 2) (v := _) rfl (by kernel_rfl) (by kernel_rfl) (by kernel_rfl) (by rfl) (fun _ _ _ h => h) (yieldsIf_load_mid (by rfl) 30 _ rfl N0 0 rfl (rc ((n : Nat) : Int) k s) _ (fun _ hs => hs.get _ (List.Mem.head _) 12 (by kernel_rfl)) Try.underlying30 rfl (by rw [length_rc E0.out.slt.two]; exact info_root)) hHeld (fun hHeld2 => ?_)
        clear hHeld; have hHeld := hHeld2; clear hHeld2
        try simp only [List.getElem_toArray, List.getElem_cons_zero, List.getElem_cons_succ, Act.put, List.setIfInBounds_toArray, List.set_cons_zero, List.set_cons_succ]
        have RE := fun W => run_eq_root W ((n : Nat) : Int) ((n : Nat) : Int) k s k s E0.out.slt.two E0.out.slt.two
        rw [show decide (((n : Nat) : Int) = ((n : Nat) : Int) ∧ k = k ∧ s = s) = true from decide_eq_true ⟨rfl, rfl, rfl⟩] at RE
        have C1 := Lib.hid (anget_any E0.out.slt (by have := LE.out; omega))
        refine wpAnyL_oneW (i := 1) (by kernel_rfl) rfl (by rfl) hHeld (fun K hK => ?_)
        go_simp
        refine C1.out.mono ?_
        rintro en w1' ⟨rfl, g1⟩
        have E1 := Lib.hid (E0.out.later g1.below)
        clear g1 C1 E0
        refine hK.out _ _ (by intro p hp hl; simp only [List.mem_cons, List.not_mem_nil, or_false] at hp; subst hp; exact E1.out.want.1) (fun hHeld2 => ?_)
        clear hHeld hK K ; have hHeld := hHeld2; clear hHeld2
        try simp only [List.getElem_toArray, List.getElem_cons_zero, List.getElem_cons_succ, Act.put, List.setIfInBounds_toArray, List.set_cons_zero, List.set_cons_succ]
        refine wpAnyL_take (i := 3) (v := _) rfl (by kernel_rfl) (by kernel_rfl) (by kernel_rfl) (by rfl) (fun _ _ _ h => h) (yieldsIf_neqR true RE (by rfl) rfl rfl rfl) hHeld (fun hHeld2 => ?_)
        clear hHeld; have hHeld := hHeld2; clear hHeld2
        try simp only [List.getElem_toArray, List.getElem_cons_zero, List.getElem_cons_succ, Act.put, List.setIfInBounds_toArray, List.set_cons_zero, List.set_cons_succ]
        refine wpAnyL_take (i := 4) (v := ?_) rfl (by kernel_rfl) (by kernel_rfl) (by kernel_rfl) (by rfl) (fun _ _ _ h => h) (Or.inl ⟨by rfl, ?_⟩) hHeld (fun hHeld2 => ?_)
        rotate_left
        · (intro wz hSw; go_simp; try with_reducible rfl)
        clear hHeld; have hHeld := hHeld2; clear hHeld2
        try simp only [List.getElem_toArray, List.getElem_cons_zero, List.getElem_cons_succ, Act.put, List.setIfInBounds_toArray, List.set_cons_zero, List.set_cons_succ]
        refine wpAnyL_take (i := 5) (v := ?_) rfl (by kernel_rfl) (by kernel_rfl) (by kernel_rfl) (by rfl) (fun _ _ _ h => h) (Or.inl ⟨by rfl, ?_⟩) hHeld (fun hHeld2 => ?_)
        rotate_left
        · (intro wz hSw; go_simp; try with_reducible rfl)
        clear hHeld; have hHeld := hHeld2; clear hHeld2
        try simp only [List.getElem_toArray, List.getElem_cons_zero, List.getElem_cons_succ, Act.put, List.setIfInBounds_toArray, List.set_cons_zero, List.set_cons_succ]
        refine wpAnyL_take (i := 7) (v := ?_) rfl (by kernel_rfl) (by kernel_rfl) (by kernel_rfl) (by rfl) (fun _ _ _ h => h) (Or.inl ⟨by rfl, ?_⟩) hHeld (fun hHeld2 => ?_)
        rotate_left
        · (intro wz hSw; go_simp; try with_reducible rfl)
        clear hHeld; have hHeld := hHeld2; clear hHeld2
        try simp only [List.getElem_toArray, List.getElem_cons_zero, List.getElem_cons_succ, Act.put, List.setIfInBounds_toArray, List.set_cons_zero, List.set_cons_succ]
        have hq0 : ∀ W : World, W.rangeAt N0 0 (rc ((n : Nat) : Int) k s) → W.cell? ⟨N0, 0, none⟩ = some (.int .i64 ((n : Nat) : Int)) := fun W h => h 0 _ rfl
        refine wpAnyL_take (i := 8) (v := ?_) rfl (by kernel_rfl) (by kernel_rfl) (by kernel_rfl) (by rfl) (fun _ _ _ h => h) (Or.inl ⟨by rfl, ?_⟩) hHeld (fun hHeld2 => ?_)
        rotate_left
        · (intro wz hSw; have hc := hq0 wz (hSw.get _ (List.Mem.head _) 12 (by kernel_rfl)); go_simp; try with_reducible rfl)
        clear hHeld; have hHeld := hHeld2; clear hHeld2
        try simp only [List.getElem_toArray, List.getElem_cons_zero, List.getElem_cons_succ, Act.put, List.setIfInBounds_toArray, List.set_cons_zero, List.set_cons_succ]
        refine wpAnyL_take (i := 9) (v := ?_) rfl (by kernel_rfl) (by kernel_rfl) (by kernel_rfl) (by rfl) (fun _ _ _ h => h) (Or.inl ⟨by rfl, ?_⟩) hHeld (fun hHeld2 => ?_)
        rotate_left
        · (intro wz hSw; go_simp; try with_reducible rfl)
        clear hHeld; have hHeld := hHeld2; clear hHeld2
        try simp only [List.getElem_toArray, List.getElem_cons_zero, List.getElem_cons_succ, Act.put, List.setIfInBounds_toArray, List.set_cons_zero, List.set_cons_succ]
        refine wpAnyL_take (i := 10) (v := ?_) rfl (by kernel_rfl) (by kernel_rfl) (by kernel_rfl) (by rfl) (fun _ _ _ h => h) (Or.inl ⟨by rfl, ?_⟩) hHeld (fun hHeld2 => ?_)
        rotate_left
        · (intro wz hSw; go_simp; try with_reducible rfl)
        clear hHeld; have hHeld := hHeld2; clear hHeld2
        try simp only [List.getElem_toArray, List.getElem_cons_zero, List.getElem_cons_succ, Act.put, List.setIfInBounds_toArray, List.set_cons_zero, List.set_cons_succ]
        have C2 := Lib.hid (ancan_any E1.out.slt (by have := LE.out; omega))
        refine wpAnyL_oneW (i := 6) (by kernel_rfl) rfl (by rfl) hHeld (fun K hK => ?_)
        go_simp
        refine C2.out.mono ?_
        rintro en w2' ⟨rfl, q2, os2, hw2⟩
        have E2 := Lib.hid (E1.out.later (hw2 ▸ below_grow w1' q2 os2))
        clear C2 hw2
        refine hK.out _ _ (by intro p hp hl; simp only [List.mem_cons, List.not_mem_nil, or_false] at hp; subst hp; exact E2.out.want.1) (fun hHeld2 => ?_)
        clear hHeld hK K ; have hHeld := hHeld2; clear hHeld2
        try simp only [List.getElem_toArray, List.getElem_cons_zero, List.getElem_cons_succ, Act.put, List.setIfInBounds_toArray, List.set_cons_zero, List.set_cons_succ]
        refine wpAnyL_oneW (i := 11) (by kernel_rfl) rfl (by rfl) hHeld (fun K hK => ?_)
        go_simp
        refine hK.out _ _ (by intro p hp hl; simp only [List.mem_cons, List.not_mem_nil, or_false] at hp; subst hp; exact E2.out.want.1) (fun hHeld2 => ?_)
        clear hHeld hK K ; have hHeld := hHeld2; clear hHeld2
        try simp only [List.getElem_toArray, List.getElem_cons_zero, List.getElem_cons_succ, Act.put, List.setIfInBounds_toArray, List.set_cons_zero, List.set_cons_succ]
        refine wpAnyL_take (i := 12) (v := ?_) rfl (by kernel_rfl) (by kernel_rfl) (by kernel_rfl) (by rfl) (fun _ _ _ h => h) (Or.inl ⟨by rfl, ?_⟩) hHeld (fun hHeld2 => ?_)
        rotate_left
        · (intro wz hSw; go_simp; try with_reducible rfl)
        clear hHeld; have hHeld := hHeld2; clear hHeld2
        try simp only [List.getElem_toArray, List.getElem_cons_zero, List.getElem_cons_succ, Act.put, List.setIfInBounds_toArray, List.set_cons_zero, List.set_cons_succ]
        refine wpAnyL_done (by kernel_rfl) ?_ _
        go_wp2
        go_roundw
        case rel => exact ⟨i + 1, n, k, s, by omega, by go_num, LE.out, E2.out⟩
        case measure => simp [intOf]; omega
    · have t3 : decide ((i : Int) < (N : Int)) = false := decide_eq_false (by omega)
      go_wp2
      go_ret
      exact ⟨rfl, E.out.bel⟩
end Go.Proofs.Ytoeboblkboillaa
