/-
  Contracts of wrap.lay and wrap.counted: a block laid back, its A put together with a number. Conditions: the text's bytes lie in its block; the table of widths stands in its variable.
-/
import Derived.Test.YtonoidhlbnbhcaaDoorWrMem
import Derived.Test.YtonoidhlbnbhcaaDoorOnly
import Derived.Test.YtonoidhlbnbhcaaDoorAesTog
namespace Go.Proofs.YtonoidhlbnbhcaaDoor
open Go.RowKit Arr Gf Sb Ae Wr

/-- A call that leaves the numbers l in block g, and turns no other block that was there. -/
def Turned (g : Nat) (l : List Nat) (w : World) (e : Ending) (w' : World) : Prop := e = .returned (.tuple #[]) ∧ Holds w' g .u8 l ∧ Only g w w'
/-- What stands while a block is laid back. -/
structure La (w : World) (g : Nat) (l b : List Nat) (w' : World) : Prop where
  text : Holds w' g .u8 l
  who : Holds w' w.heap.size .u8 b
  only : Only g w w'
theorem La.drew {w w' : World} {g : Nat} {l b : List Nat} (h : La w g l b w') : La w g l b w'.drew := ⟨h.text.drew, h.who.drew, h.only.drew⟩
theorem La.copied {w w' : World} {g : Nat} {l b : List Nat} (h : La w g l b w') (hg : g < w.heap.size) (o : Nat) (m : List Nat) (hm : o + m.length ≤ l.length) : La w g (spl l o m) b (w'.setCells g o (nv .u8 m)) :=
  ⟨by have := HAt.spliced (Holds.at0 h.text) o m hm; rwa [Nat.zero_add] at this, h.who.apart _ _ _ (by omega), h.only.setCells _ _⟩
theorem La.begin (w : World) (g : Nat) (l b : List Nat) (h : Holds w g .u8 l) : La w g l b (w.alloc (.cells (na .u8 b) 45)) :=
  ⟨h.alloc _, Holds.new w _ .u8 b, (Only.refl g w).alloc _⟩

set_option maxHeartbeats 1000000 in
theorem lay_any (g N c n o : Nat) (l b : List Nat) (hl : l.length = 8 * (n + 1)) (hN : N = 8 * (n + 1)) (hc : N ≤ c) (ho : o + 8 ≤ 8 * (n + 1)) (hb : b.length = 16) (w : World) (h : Holds w g .u8 l) :
    Calls Tryd.prog 34 #[.slice (some ⟨g, 0, none⟩) N c, .int .i64 (o : Int), .agg (na .u8 b)] w (Turned g (ly l o b) w) := by
  have hg : g < w.heap.size := h.lt (by omega)
  have J0 := Lib.hid (La.begin w g l b h)
  have e1 : (b.take 8).length = 8 := take_len (by omega)
  have e2 : (b.drop 8).length = 8 := by simp; omega
  have HJ := Lib.hid (show spl (spl l 0 (b.take 8)) o (b.drop 8) = ly l o b from rfl)
  have lx : (spl l 0 (b.take 8)).length = l.length := length_spl _ _ _ (by rw [e1]; omega)
  have hs1 := fun W : World => sliceH o16 W w.heap.size 0 .i64 8 8 rfl (by omega)
  have hs2 : ∀ W : World, (Instr.sliceAt 45 (.pointer (some ⟨w.heap.size, 0, none⟩)) (some (.int .i64 8)) none none).run Tryd.prog W = .ok (.slice (some ⟨w.heap.size, 8, none⟩) 8 8) W := fun W => by
    have := sliceL o16 W w.heap.size 0 .i64 8 8 rfl (by omega)
    rwa [Nat.zero_add] at this
  have hs3 := fun W : World => run_behind g N c o (by omega) (by omega) W
  have C1 : Go.RowKit.Hid (∀ w', La w g l b w' → (Builtin.copy_ #[22, 22] 3 #[.slice (some ⟨g, 0, none⟩) N c, .slice (some ⟨w.heap.size, 0, none⟩) 8 16]).run Tryd.prog w' = .ok (goInt 8) (w'.setCells g 0 (nv .u8 (b.take 8)))) := Lib.hid (fun w' j => by
    have := run_copy_bytes (P := Tryd.prog) w' 22 22 3 5 Tryd.underlying22 size1_u8 g 0 N c w.heap.size 0 8 16 l (b.take 8) (Holds.at0 j.text) (by rw [e1]; show 8 = min 8 N; omega) (by rw [e1]; omega) (fun i hi => by rw [Nat.zero_add, j.who.cell i (by omega), take_get _ _ _ (by omega)])
    rwa [e1] at this)
  have C2 : Go.RowKit.Hid (∀ w' x, x.length = l.length → La w g x b w' → (Builtin.copy_ #[22, 22] 3 #[.slice (some ⟨g, o, none⟩) (N - o) (c - o), .slice (some ⟨w.heap.size, 8, none⟩) 8 8]).run Tryd.prog w' = .ok (goInt 8) (w'.setCells g o (nv .u8 (b.drop 8)))) := Lib.hid (fun w' x hx j => by
    have HP := HAt.part (Holds.at0 j.text) o 8 (by omega)
    rw [Nat.zero_add] at HP
    have := run_copy_bytes (P := Tryd.prog) w' 22 22 3 5 Tryd.underlying22 size1_u8 g o (N - o) (c - o) w.heap.size 8 8 8 _ (b.drop 8) HP (by rw [e2]; show 8 = min 8 (N - o); omega) (by rw [e2, take_len (by rw [List.length_drop]; omega)]; omega) (fun i hi => by rw [j.who.cell (8 + i) (by omega), drop_get])
    rwa [e2] at this)
  have X1 : Go.RowKit.Hid (∀ w', La w g l b w' → La w g (spl l 0 (b.take 8)) b (w'.setCells g 0 (nv .u8 (b.take 8)))) := Lib.hid (fun w' j => j.copied hg 0 _ (by rw [e1]; omega))
  have X2 : Go.RowKit.Hid (∀ w', La w g (spl l 0 (b.take 8)) b w' → La w g (ly l o b) b (w'.setCells g o (nv .u8 (b.drop 8)))) := Lib.hid (fun w' j => by rw [← HJ.out]; exact j.copied hg o _ (by rw [e2, lx]; omega))
  have LX := Lib.hid lx
  clear h HJ hN hl lx hb
  generalize spl l 0 (b.take 8) = x at *
  generalize ly l o b = y at *
  generalize b.drop 8 = m2 at *
  generalize b.take 8 = m1 at *
  go_enter Tryd.func34, Tryd.ntmps34
  go_upto_region 1 with fail
  generalize w.alloc (.cells (na .u8 b) 45) = w2 at *
  have D1 := Lib.hid (C1.out w2 J0.out)
  have J1 := Lib.hid (X1.out w2 J0.out)
  clear C1 X1 J0
  go_wp2_with (first | (with_reducible refine Arr.list_copy (.slice (some ⟨g, 0, none⟩) N c) (.slice (some ⟨w.heap.size, 0, none⟩) 8 16) _ (w2.setCells g 0 (nv .u8 m1)) rfl rfl D1.out ?_) | fail)
  generalize w2.setCells g 0 (nv .u8 m1) = w3 at *
  clear D1
  refine region_tail 4 (by kernel_rfl) (by kernel_rfl) ?_
  intro wd hwd
  have J2 : La w g x b wd := by rw [hwd]; exact J1.out.drew
  clear hwd J1
  have D2 := Lib.hid (C2.out wd x LX.out J2)
  have J3 := Lib.hid (X2.out wd J2)
  clear C2 X2 J2
  simp only [List.take_succ_cons, List.take_zero, List.drop_succ_cons, List.drop_zero]
  repeat still_step
  refine wpStill_nil ?_
  go_wp2_with (first | (with_reducible refine Arr.list_copy (.slice (some ⟨g, o, none⟩) (N - o) (c - o)) (.slice (some ⟨w.heap.size, 8, none⟩) 8 8) _ (wd.setCells g o (nv .u8 m2)) rfl rfl D2.out ?_) | fail)
  go_end0
  exact ⟨rfl, J3.out.text, J3.out.only⟩

theorem laid8 {x : Nat} {arr : Array Value} (h : Laid x 8 8 arr) : arr = na .u8 (bytesOf x 8) := laid_all h
theorem ctk_zero (b c : List Nat) (hb : b.length = 16) : ctk b c 0 = b := upto_zero _ _ _ hb
theorem ctk_succ (b c : List Nat) (k : Nat) (hk : k < 16) : ctk b c (k + 1) = (ctk b c k).set k (b.getD k 0 ^^^ c.getD k 0) := upto_succ _ _ _ _ hk

set_option maxHeartbeats 1000000 in
theorem counted_any (b : List Nat) (t : Nat) (hb : St b) (ht : t ≤ 100) (w : World) (hT : Tab w 0) :
    Calls Tryd.prog 35 #[.agg (na .u8 b), .int .i64 (t : Int)] w (GivesA (ct b t) w) := by
  obtain ⟨A1, A2, A3⟩ := two_new w b 45
  have B1 := Lib.hid A1
  have B2 := Lib.hid A2
  have B3 := Lib.hid A3
  have HB := Lib.hid hb
  have htw := hT.lt
  have HT := Lib.hid (hT.below A3 htw)
  have wt : IntKind.u64.wrap (t : Int) = (t : Int) := by rw [IntKind.wrap_u64]; omega
  have HE := Lib.hid (show ctk b (bytesOf t 8) 8 = ct b t from rfl)
  have s2 : ((w.alloc (.cells (na .u8 b) 45)).alloc (.cells (na .u8 (zs 16)) 45)).heap.size = w.heap.size + 2 := by
    rw [World.size_alloc, World.size_alloc]
  have S2 := Lib.hid s2
  clear A1 A2 A3 hb hT s2
  go_enter Tryd.func35, Tryd.ntmps35
  go_upto_region 1 with (first | (with_reducible refine Arr.alloc (t := 45) _ z16 ?_) | fail)
  generalize (w.alloc (.cells (na .u8 b) 45)).alloc (.cells (na .u8 (zs 16)) 45) = w2 at *
  have CP := Lib.hid (put64_any t w2 HT.out)
  clear HT
  go_wp2_with fail
  refine CP.out.mono ?_
  rintro e w3 ⟨arr, hla, rfl, rfl⟩
  rw [S2.out]
  obtain rfl := laid8 hla
  clear CP hla
  have D1 := Lib.hid (B1.out.alloc (.cells (na .u8 (bytesOf t 8)) 5))
  have D2 := Lib.hid (B2.out.alloc (.cells (na .u8 (bytesOf t 8)) 5))
  have D3 := Lib.hid (B3.out.alloc B3.out.size (.cells (na .u8 (bytesOf t 8)) 5))
  have D4 := Holds.new w2 5 .u8 (bytesOf t 8)
  rw [S2.out] at D4
  have D4 := Lib.hid D4
  have CB := Lib.hid (fun i => bytes_get_lt t i)
  have CL := Lib.hid (length_bytesOf t 8)
  clear B1 B2 B3 S2
  generalize bytesOf t 8 = cs at *
  generalize w2.alloc (.cells (na .u8 cs) 5) = w3 at *
  go_wp2_with fail
  go_loopw [11] (fun i wr => ∃ k : Nat, k ≤ 8 ∧ i = .int .i64 (k : Nat) ∧ Holds wr w.heap.size .u8 (ctk b cs k) ∧ Holds wr (w.heap.size + 1) .u8 (zs 16) ∧ Holds wr (w.heap.size + 2) .u8 cs ∧ Below w.heap.size w wr) (fun i _ => 8 - (intOf i).toNat)
  case atStart => exact ⟨0, by omega, rfl, by rw [ctk_zero _ _ HB.out.1]; exact D1.out, D2.out, D4.out, D3.out⟩
  case round =>
    clear D1 D2 D3 D4
    obtain ⟨k, hk, rfl, h1, h2, h4, h3⟩ := hrel
    have H1 := Lib.hid h1
    have H2 := Lib.hid h2
    have H3 := Lib.hid h3
    have H4 := Lib.hid h4
    clear h1 h2 h3 h4
    have lc := length_ctk b cs k
    by_cases hlt : k < 8
    · have tk : decide ((k : Int) < 8) = true := by simp; omega
      have HS := Lib.hid (ctk_succ b cs k (by omega))
      have hold : (ctk b cs k).getD k 0 = b.getD k 0 := by rw [ctk, upto_get _ _ _ _ _ (by omega), if_neg (by omega)]
      have c1 := H1.out.cell k (by omega)
      rw [hold] at c1
      have f1 := H1.out.frozen k (by omega)
      have c2 := H4.out.cell k (by rw [CL.out]; exact hlt)
      have hx := u8_xor_nat _ _ (HB.out.2 k) (CB.out k)
      have X1 := H1.out.set k (b.getD k 0 ^^^ cs.getD k 0) (by omega)
      rw [← HS.out] at X1
      have X2 := H2.out.beside ⟨w.heap.size, k, none⟩ (.int .u8 ((b.getD k 0 ^^^ cs.getD k 0 : Nat) : Int)) (show w.heap.size ≠ w.heap.size + 1 by omega)
      have X4 := H4.out.beside ⟨w.heap.size, k, none⟩ (.int .u8 ((b.getD k 0 ^^^ cs.getD k 0 : Nat) : Int)) (show w.heap.size ≠ w.heap.size + 2 by omega)
      have X3 := H3.out.setCell (p := ⟨w.heap.size, k, none⟩) (Nat.le_refl _) (.int .u8 ((b.getD k 0 ^^^ cs.getD k 0 : Nat) : Int))
      have X1 := Lib.hid X1
      have X2 := Lib.hid X2
      have X3 := Lib.hid X3
      have X4 := Lib.hid X4
      clear H1 H2 H3 H4 hold HS
      generalize b.getD k 0 ^^^ cs.getD k 0 = z at *
      generalize b.getD k 0 = p at *
      generalize cs.getD k 0 = q at *
      go_wp2
      go_roundw
      case rel => exact ⟨k + 1, by omega, by go_num, X1.out, X2.out, X4.out, X3.out⟩
      case measure => simp [intOf]; omega
    · obtain rfl : k = 8 := by omega
      rw [HE.out] at H1 lc
      generalize ct b t = m at *
      go_wp2_with (first | (with_reducible refine Arr.load o16 w.heap.size m lc H1.out rfl ?_) | (with_reducible refine Arr.store o16 (w.heap.size + 1) (zs 16) m (length_zs _) H2.out lc rfl rfl ?_))
      exact bodyPost_ret (v := .agg (na .u8 m)) (results_arr o16 rfl _ _ (w.heap.size + 1) m lc (H2.out.put _ (by rw [lc, length_zs])) rfl) rfl ⟨rfl, below_setCells (by omega) _ _ _ H3.out⟩
end Go.Proofs.YtonoidhlbnbhcaaDoor
