/-
  Own lemmas on rows of bytes that a call makes: the runs of append, of bytes and of noughts, as one operation. No conditions.
-/
import Derived.Test.YtdfbhgajomdeeaaDoorOwnVals
import Derived.Lib.AppendZerosOnto
namespace Go.Proofs.YtdfbhgajomdeeaaDoor
open Go.RowKit Arr Sh
section
variable {P : Program} {w : World}

/-- append(v, x...), v a row of bytes of the call's own. -/
theorem run_append_bytes (base : Nat) (t ty e : TypeId) (ht : P.underlying t = some (.slice e)) (hinfo : (P.info? e).map (fun i => (i.zero, i.size, i.bytes)) = some (some (.int .u8 0), 1, 1))
    (v : Value) (n : Nat) (xs : List Nat) (hown : w.ownsRow base e 1 v n (vals .u8 xs)) (hv : v ≠ .slice none 0 0)
    (A : Option Addr) (m c : Nat) (bs : List Nat) (hc : A = none → c = 0) (hl : bs.length = m) (B : Nat) (hb : Bys w B A bs) (hn : n + m ≤ 4294967296) (hbase : base ≤ w.heap.size) :
    ∃ v' w', (Builtin.append_ #[t, t] ty #[v, .slice A m c]).run P w = .ok v' w' ∧ w'.ownsRow base e 1 v' (n + m) (vals .u8 (xs ++ bs)) ∧ v' ≠ .slice none 0 0 ∧ Below base w w' := by
  obtain ⟨i0, hi, hz0, hz1, hz2⟩ := info_parts hinfo
  have hva : vals .u8 (xs ++ bs) = vals .u8 xs ++ vals .u8 bs := by simp [vals]
  rcases A with _ | ad
  · have hm : bs = [] := by
      rcases Nat.eq_zero_or_pos bs.length with h0 | h0
      · exact List.eq_nil_of_length_eq_zero h0
      · obtain ⟨_, _, he, _⟩ := hb.2 h0; cases he
    subst hm
    obtain rfl : m = 0 := hl.symm
    obtain rfl : c = 0 := hc rfl
    exact ⟨v, w, run_append_owned_none (P := P) (w := w) base t ty e i0 1 ht hi v n _ hown, by simpa using hown, hv, Below.refl _ _⟩
  · have hnews : ∀ j u, (vals .u8 bs)[j]? = some u → w.cell? (ad.add j) = some u := by
      intro j u hu
      have hj : j < bs.length := by have := (List.getElem?_eq_some_iff.1 hu).1; simpa [vals] using this
      obtain ⟨b, off, he, _, hcell⟩ := hb.2 (by omega)
      simp only [Option.some.injEq] at he
      subst he
      rw [vals_get .u8 bs j hj] at hu
      rw [add_nat, hcell j hj]; exact hu
    obtain ⟨v', w', hr, h2, h3, h4⟩ := run_append_own (P := P) w base t ty e i0 (.int .u8 0) 1 1 ht hi hz0 hz1 hz2 rfl (by decide) v n _ hown ad m c (vals .u8 bs) (by simp [vals, hl]) hnews
      (by intro u hu; simp only [vals, List.mem_map] at hu; obtain ⟨z, _, rfl⟩ := hu; rfl) (by unfold maxLen; omega) (by omega) hbase
    refine ⟨v', w', hr, by rw [hva]; exact h2, fun hnil => hv (h4.1 hnil).1, (Below.refl base w).grown h3 hbase (fun k hk => (hown.lt k hk).1)⟩

theorem zeroCells_u8 (k : Nat) : (Builtin.zeroCells #[.int .u8 0] k).toList = vals .u8 (zs k) := by
  simp [Builtin.zeroCells, vals, zs, Nat.mod_one]
  exact (List.map_const' (l := List.range k)).trans (by rw [List.length_range])
/-- append(v, make([]byte, k)...), v a row of bytes of the call's own. -/
theorem run_append_noughts (base : Nat) (t tn ty e : TypeId) (kn kq : IntKind) (ht : P.underlying t = some (.slice e)) (htn : P.underlying tn = some (.int kn)) (hinfo : (P.info? e).map (fun i => (i.zero, i.size, i.bytes)) = some (some (.int .u8 0), 1, 1))
    (v : Value) (n : Nat) (xs : List Nat) (hown : w.ownsRow base e 1 v n (vals .u8 xs)) (hv : v ≠ .slice none 0 0) (k : Nat) (hn : n + k ≤ 4294967296) (hbase : base ≤ w.heap.size) :
    ∃ v' w', (Builtin.append_ #[t, tn] ty #[v, .int kq (k : Int)]).run P w = .ok v' w' ∧ w'.ownsRow base e 1 v' (n + k) (vals .u8 (xs ++ zs k)) ∧ Below base w w' := by
  obtain ⟨i0, hi, hz0, hz1, hz2⟩ := info_parts hinfo
  have hva : vals .u8 (xs ++ zs k) = vals .u8 xs ++ vals .u8 (zs k) := by simp [vals]
  have hxl : xs.length = n := by have := hown.1; simpa [vals] using this
  have hlen : (vals .u8 xs ++ vals .u8 (zs k)).length = (n + k) * 1 := by simp [vals, zs, hxl]
  have hw : IntKind.i64.wrap (k : Int) = k := by rw [IntKind.wrap_i64]; omega
  have hneg : ¬ ((k : Int) < 0) := by omega
  have hbig : ¬ (281474976710656 < (k : Int)) := by omega
  rcases hown.2 with ⟨rfl, _⟩ | ⟨g, cap, cur, rfl, hbg, hg, hnc, hcm, hcs, htake⟩
  · exact absurd rfl hv
  · have hglt := (Array.getElem?_eq_some_iff.1 hg).1
    by_cases hroom : n + k ≤ cap
    · have hst := run_storeCells_at P g n e (vals .u8 (zs k)) 0 cur w hg (by simp [vals, zs]; omega) (by intro u hu; simp only [vals, List.mem_map] at hu; obtain ⟨z, _, rfl⟩ := hu; rfl)
      simp only [Nat.add_zero] at hst
      have hgr : w.grownBy (w.setRow g (cur.toList.take n ++ vals .u8 (zs k) ++ cur.toList.drop (n + (vals .u8 (zs k)).length)).toArray) (some g) := ⟨rfl, rfl, rfl, by simp, fun j _ hj => setRow_other w g j _ (fun e => hj (by rw [e]))⟩
      refine ⟨.slice (some ⟨g, 0, none⟩) (n + k) cap, w.setRow g (cur.toList.take n ++ vals .u8 (zs k) ++ cur.toList.drop (n + (vals .u8 (zs k)).length)).toArray, ?_, ⟨by rw [hva]; exact hlen, .inr ⟨g, cap, _, rfl, hbg, setRow_heap w g cur _ e _ hg, hroom, hcm, ?_, ?_⟩⟩, (Below.refl base w).grown hgr hbase (fun j hj => by cases hj; exact hbg)⟩
      · rcases Nat.eq_zero_or_pos k with h0 | h0
        · subst h0
          simp [zs, vals] at hst
          have hw0 : IntKind.i64.wrap 0 = 0 := by rw [IntKind.wrap_i64]; rfl
          simp [Builtin.append_, run_underlying ht, run_underlying htn, sizeOf, typeInfo, hi, hz1, hz2, asInt, asIntOf, zs, vals, hw0, hnc, Addr.add_lit, hst]
        · have hns : ¬ (k = 0) := by omega
          simp [Builtin.append_, run_underlying ht, run_underlying htn, sizeOf, typeInfo, zeroValue, hi, hz0, hz1, hz2, asInt, asIntOf, hw, hneg, hbig, hns, hroom, zeroCells_u8, Value.cells, Addr.add_lit, hst]
      · simp only [List.size_toArray, List.length_append, List.length_take, List.length_drop, Array.length_toList]
        simp [vals, zs]
        omega
      · rw [hva, ← hlen]
        have : cur.toList.take n = vals .u8 xs := by have := htake; rwa [Nat.mul_one] at this
        rw [this]
        exact List.take_left
    · have holds : ∀ j u, (vals .u8 xs)[j]? = some u → w.cell? ((⟨g, 0, none⟩ : Addr).add j) = some u := hown.cells (g := g) rfl
      have hf := run_firstCells_some (P := P) w.drew i0.size n ⟨g, 0, none⟩ n cap (vals .u8 xs) (by rw [hz1]; simpa using hown.1) (fun j u hu => by simpa using holds j u hu)
      have hr := Lib.run_append_grow_zeros (P := P) w t tn ty e i0 (.int .u8 0) kq kn ht htn hi hz0 (some ⟨g, 0, none⟩) n cap (vals .u8 xs) hf k (by omega) (by rw [hz1]; omega) (by omega) (by omega) (by rw [hz2]; omega) (growslice_fits (by omega) (by rw [hz2]; omega))
      have hge := grownCap_ge w (n + k) cap e
      have hcm2 : grownCap w (n + k) cap e ≤ maxLen := grownCap_le_maxLen w (n + k) cap e (by unfold maxLen; omega)
      refine ⟨_, _, hr, ⟨by rw [hva]; exact hlen, .inr ⟨w.heap.size, _, _, rfl, hbase, heap_alloc_new w.drew _, hge, hcm2, ?_, ?_⟩⟩, ?_⟩
      · simp [Value.cells, vals, hxl, size_zeroCells]
        omega
      · rw [hva, ← hlen]
        simp only [Array.toList_append, List.append_assoc]
        rw [← List.append_assoc]
        have e1 : (Builtin.zeroCells (Value.cells (.int .u8 0)) k).toList = vals .u8 (zs k) := zeroCells_u8 k
        rw [e1]
        exact List.take_left
      · exact ⟨rfl, rfl, rfl, by simp, fun j hj => Go.heap_alloc_old w.drew _ (Nat.lt_of_lt_of_le hj hbase)⟩
/-- append, as one operation, its run known. -/
theorem step_append {ops : Array Oper} {o : Oper} {a : Act} {K : Act → World → Prop} {Q : Exit → Act → World → Prop} {E : Prop} (hg : o.guard = none) (s x : Operand) (t tn : TypeId) (ho : o.op = .call { callee := .builtin .append, args := #[s, x], argTypes := #[t, tn] }) (vs vx : Value) (hs : a.eval s = vs) (hx : a.eval x = vx)
    {v' : Value} {w' : World} (hr : (Builtin.append_ #[t, tn] o.type #[vs, vx]).run P w = .ok v' w') (h : K (a.put o.dst v') w') : if Region.wanted o (yielded ops a.tmps) = true then Oper.wp P o a w K Q else E := by
  have hw : Region.wanted o (yielded ops a.tmps) = true := by simp [Region.wanted, hg]
  rw [if_pos hw]
  exact Lib.wp_append_run w s x t tn ho vs vx hs hx v' w' hr h
end
end Go.Proofs.YtdfbhgajomdeeaaDoor
