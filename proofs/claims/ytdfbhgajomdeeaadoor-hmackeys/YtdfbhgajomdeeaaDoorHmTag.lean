/-
  Contract of hmac.Tag: the tag of parts under a key. Conditions: the tables stand in their variables; key and parts lie below, in their slices; the parts are at most 2^32 - 1, and fewer than 2^60 - 64 bytes together, the key has fewer than 2^60.
-/
import Derived.Test.YtdfbhgajomdeeaaDoorHmTagged
namespace Go.Proofs.YtdfbhgajomdeeaaDoor
open Go.RowKit Arr Sh Hm

/-- Both pads, laid behind what was there. -/
theorem pads_laid {w w2 : World} (hB : Below w.heap.size w w2) (x y : List Nat) (hx : x.length = 64) (hy : y.length = 64) :
    Holds (w2.alloc (.cells (na .u8 (zs 64)) 25)) w2.heap.size .u8 (zs 64) ∧
    Holds (((w2.alloc (.cells (na .u8 (zs 64)) 25)).alloc (.cells (na .u8 (zs 64)) 25))) w2.heap.size .u8 (zs 64) ∧
    Holds (((w2.alloc (.cells (na .u8 (zs 64)) 25)).alloc (.cells (na .u8 (zs 64)) 25)).setCells w2.heap.size 0 (nv .u8 x)) (w2.heap.size + 1) .u8 (zs 64) ∧
    Pd w2 ((((w2.alloc (.cells (na .u8 (zs 64)) 25)).alloc (.cells (na .u8 (zs 64)) 25)).setCells w2.heap.size 0 (nv .u8 x)).setCells (w2.heap.size + 1) 0 (nv .u8 y)) x y ∧
    Below w.heap.size w ((((w2.alloc (.cells (na .u8 (zs 64)) 25)).alloc (.cells (na .u8 (zs 64)) 25)).setCells w2.heap.size 0 (nv .u8 x)).setCells (w2.heap.size + 1) 0 (nv .u8 y)) := by
  have P := Pd.new w2
  have h1 := P.one.put x (by rw [hx, length_zs])
  have h2 := P.two.apart w2.heap.size 0 (nv .u8 x) (by omega)
  have b1 := below_setCells (b := w2.heap.size) (Nat.le_refl _) (nv .u8 x) 0 _ P.bel
  have h3 := h1.apart (w2.heap.size + 1) 0 (nv .u8 y) (by omega)
  have h4 := h2.put y (by rw [hy, length_zs])
  have b2 := below_setCells (b := w2.heap.size + 1) (Nat.le_succ _) (nv .u8 y) 0 _ b1
  exact ⟨Holds.new _ _ _ _, P.one, h2, ⟨h3, h4, b2⟩, hB.trans (b2.mono hB.size)⟩

set_option maxHeartbeats 1000000 in
theorem Tag_any (bs : List Nat) (K : Option Addr) (n d : Nat) (hl : bs.length = n) (hd : n ≤ d) (hn : n < 1152921504606846976) (ps : List Pt) (A : Option Addr) (N c : Nat) (hN : ps.length = N) (hAc : A = none → c = 0) (hN2 : N < 4294967296) (hT : (textOf ps).length + 64 < 1152921504606846976)
    (w : World) (hb : Bys w w.heap.size K bs) (hp : Parts w w.heap.size A ps) (hv : VarsS w) :
    Calls Tryd.prog 9 #[.slice K n d, .slice A N c] w (GivesB (tag bs (textOf ps)) w) := by
  have s1 : (w.alloc (.cells (na .u8 (zs 32)) 28)).heap.size = w.heap.size + 1 := World.size_alloc ..
  have b1 := below_alloc w (.cells (na .u8 (zs 32)) 28)
  have R1 := Lib.hid (Holds.new w 28 .u8 (zs 32))
  have C1 := Lib.hid (Pads_any bs K n d hl hd hn (w.alloc (.cells (na .u8 (zs 32)) 28)) (hv.below b1 (Nat.le_refl _)) ((hb.below b1).more b1.size))
  have LI := length_inn bs
  have LO := length_outr bs
  have IB := Lib.hid (inn_lt hb.1)
  have OB := Lib.hid (outr_lt hb.1)
  have HV := Lib.hid hv
  have HP := Lib.hid hp
  have LT : (tag bs (textOf ps)).length = 32 := length_tag _ _
  have S1 := Lib.hid s1
  have B1 := Lib.hid b1
  have CT : Go.RowKit.Hid (∀ w', Below w.heap.size w w' → Calls Tryd.prog 17 #[.agg (na .u8 (inn bs)), .agg (na .u8 (outr bs)), .slice A N c] w' (GivesB (tag bs (textOf ps)) w')) := Lib.hid (fun w' hB =>
    tagged_any (inn bs) (outr bs) LI LO IB.out OB.out ps A N c hN hAc hN2 hT w' (hp.later hB) (hv.below hB (Nat.le_refl _)))
  clear s1 b1 hv hp hb hl hN hT IB OB
  generalize tag bs (textOf ps) = tg at *
  generalize inn bs = x at *
  generalize outr bs = y at *
  go_enter Tryd.func9, Tryd.ntmps9
  go_upto_region 1 with (first | (with_reducible refine Arr.alloc (t := 28) _ z32 ?_) | fail)
  generalize w.alloc (.cells (na .u8 (zs 32)) 28) = w1 at *
  go_wp2_with fail
  refine C1.out.mono ?_
  rintro e w2 ⟨rfl, hB2⟩
  have hlt := S1.out
  have B2 : Below w.heap.size w w2 := B1.out.trans (hB2.mono B1.out.size)
  have hs2 := hB2.size
  have PL := pads_laid B2 x y LI LO
  have r2 := R1.out.below hB2 (by omega)
  have R3 := Lib.hid ((r2.below PL.2.2.2.1.bel (by omega)))
  have P1 := Lib.hid PL.2.1
  have P3 := Lib.hid PL.2.2.2.1
  have P4 := Lib.hid PL.2.2.2.2
  have X2 : (w2.alloc (.cells (na .u8 (zs 64)) 25)).heap.size = w2.heap.size + 1 := World.size_alloc ..
  have P2 := Lib.hid (show Holds (((w2.alloc (.cells (na .u8 (zs 64)) 25)).alloc (.cells (na .u8 (zs 64)) 25)).setCells w2.heap.size 0 (nv .u8 x)) (w2.alloc (.cells (na .u8 (zs 64)) 25)).heap.size .u8 (zs 64) by rw [X2]; exact PL.2.2.1)
  clear PL r2 hB2 B2 C1 R1 B1
  go_upto_region 2 with (first | (with_reducible refine Arr.alloc (t := 25) _ z64b ?_) | (with_reducible refine Arr.store o64b w2.heap.size (zs 64) x (length_zs _) P1.out LI rfl rfl ?_) | (with_reducible refine Arr.store o64b (w2.alloc (.cells (na .u8 (zs 64)) 25)).heap.size (zs 64) y (length_zs _) P2.out LO rfl rfl ?_) | fail)
  rw [X2]
  generalize ((((w2.alloc (.cells (na .u8 (zs 64)) 25)).alloc (.cells (na .u8 (zs 64)) 25)).setCells w2.heap.size 0 (nv .u8 x)).setCells (w2.heap.size + 1) 0 (nv .u8 y)) = w3 at *
  have C3 := Lib.hid (CT.out w3 P4.out)
  have hw3 := P3.out.bel.size
  clear P1 P2 CT X2
  go_wp2_with (first | (with_reducible refine Arr.load o64b w2.heap.size x LI P3.out.one rfl ?_) | (with_reducible refine Arr.load o64b (w2.heap.size + 1) y LO P3.out.two rfl ?_) | fail)
  refine C3.out.mono ?_
  rintro e w4 ⟨rfl, hB4⟩
  have r4 := R3.out.below hB4 (by omega)
  have R4 := Lib.hid r4
  have F1 := Lib.hid (r4.put tg (by rw [LT, length_zs]))
  have F2 := Lib.hid (below_setCells (b := w.heap.size) (Nat.le_refl _) (nv .u8 tg) 0 _ (P4.out.trans (hB4.mono P4.out.size)))
  clear r4 hB4 C3 R3 P3 P4
  go_wp2_with (first | (with_reducible refine Arr.store o32 w.heap.size (zs 32) tg (length_zs _) R4.out LT rfl rfl ?_) | fail)
  exact bodyPost_ret (v := .agg (na .u8 tg)) (results_arr o32 rfl _ _ w.heap.size tg LT F1.out rfl) rfl ⟨rfl, F2.out⟩
end Go.Proofs.YtdfbhgajomdeeaaDoor
