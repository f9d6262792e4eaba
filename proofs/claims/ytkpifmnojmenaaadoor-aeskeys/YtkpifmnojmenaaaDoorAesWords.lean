/-
  Contracts of aes.Words, and of Encrypt and Decrypt of a cipher that is none. Conditions: the key's bytes lie in its slice, the table of widths in its variable. (Written by tools/gen_words4.py.)
-/
import Derived.Test.YtkpifmnojmenaaaDoorAesNew
namespace Go.Proofs.YtkpifmnojmenaaaDoor
open Go.RowKit Arr Gf Sb Ae

/-- What a call of Words leaves, the key being one. -/
def Worded (bs : List Nat) (k : Nat) (w : World) (e : Ending) (w' : World) : Prop :=
  ∃ h, e = .returned (.tuple #[.slice (some ⟨h, 0, none⟩) (4 * (k + 7)) (4 * (k + 7)), .int .i64 0]) ∧ Holds w' h .u32 (words bs k) ∧ Below w.heap.size w w'
theorem words_none (A : Option Addr) (n c : Nat) (h1 : n ≠ 16) (h2 : n ≠ 32) (w : World) : Calls Tryd.prog 8 #[.slice A n c] w fun e w' => e = .returned (.tuple #[.slice none 0 0, .int .i64 20]) ∧ w = w' := by
  have C0 := wordsOf_any A n c w
  rw [show nk n = 0 by rw [nk, if_neg h1, if_neg h2]] at C0
  have C1 := Lib.hid C0
  clear C0
  go_enter Tryd.func8, Tryd.ntmps8
  go_wp2_with fail
  refine C1.out.mono ?_
  rintro e w' ⟨rfl, rfl⟩
  go_wp2
  go_ret2
  exact ⟨rfl, rfl⟩
set_option maxHeartbeats 1000000 in
theorem encrypt_nil (b : List Nat) (w : World) : Calls Tryd.prog 10 #[.pointer none, .agg (na .u8 b)] w (GivesA (zs 16) w) := by
  obtain ⟨A1, A2, A3⟩ := two_new w b 32
  have B2 := Lib.hid A2
  have B3 := Lib.hid A3
  have C0 := Lib.hid (fun w' => rounds_nil w')
  clear A1 A2 A3
  go_enter Tryd.func10, Tryd.ntmps10
  go_wp2_with (first | (with_reducible refine Arr.alloc (t := 32) _ z16 ?_) | fail)
  refine (C0.out _).mono ?_
  rintro e w' ⟨rfl, rfl⟩
  generalize (w.alloc (.cells (na .u8 b) 32)).alloc (.cells (na .u8 (zs 16)) 32) = w0 at *
  go_wp2_with (first | (with_reducible refine Arr.build_none _ b16 ?_) | (with_reducible refine Arr.store o16 (w.heap.size + 1) (zs 16) (zs 16) (length_zs _) B2.out (length_zs _) rfl rfl ?_))
  exact bodyPost_ret (v := .agg (na .u8 (zs 16))) (results_arr o16 rfl _ _ (w.heap.size + 1) (zs 16) (length_zs _) (B2.out.put _ rfl) rfl) rfl ⟨rfl, below_setCells (by omega) _ _ _ B3.out⟩
set_option maxHeartbeats 1000000 in
theorem decrypt_nil (b : List Nat) (w : World) : Calls Tryd.prog 11 #[.pointer none, .agg (na .u8 b)] w (GivesA (zs 16) w) := by
  obtain ⟨A1, A2, A3⟩ := two_new w b 32
  have B2 := Lib.hid A2
  have B3 := Lib.hid A3
  have C0 := Lib.hid (fun w' => rounds_nil w')
  clear A1 A2 A3
  go_enter Tryd.func11, Tryd.ntmps11
  go_wp2_with (first | (with_reducible refine Arr.alloc (t := 32) _ z16 ?_) | fail)
  refine (C0.out _).mono ?_
  rintro e w' ⟨rfl, rfl⟩
  generalize (w.alloc (.cells (na .u8 b) 32)).alloc (.cells (na .u8 (zs 16)) 32) = w0 at *
  go_wp2_with (first | (with_reducible refine Arr.build_none _ b16 ?_) | (with_reducible refine Arr.store o16 (w.heap.size + 1) (zs 16) (zs 16) (length_zs _) B2.out (length_zs _) rfl rfl ?_))
  exact bodyPost_ret (v := .agg (na .u8 (zs 16))) (results_arr o16 rfl _ _ (w.heap.size + 1) (zs 16) (length_zs _) (B2.out.put _ rfl) rfl) rfl ⟨rfl, below_setCells (by omega) _ _ _ B3.out⟩

set_option maxHeartbeats 2000000 in
theorem words4 (bs : List Nat) (hl : bs.length = 16) (A : Option Addr) (c : Nat) (hc : 16 ≤ c) (w : World) (hb : Bys w w.heap.size A bs) (ht : Tab w 0) :
    Calls Tryd.prog 8 #[.slice A 16 c] w (Worded bs 4 w) := by
  have C0 := Lib.hid (show Calls Tryd.prog 14 #[.slice A 16 c] w fun e w' => e = .returned (.int .i64 4) ∧ w = w' from wordsOf_any A 16 c w)
  have C1 := Lib.hid (box_any w)
  have HB := Lib.hid hb
  have HT := Lib.hid ht
  have htw := ht.lt
  have LB := boxL_len
  have C3 := Lib.hid (fun o g w' h1 h2 h3 => expanded4 bs hl A c hc g o w' h1 h2 h3)
  clear hb ht
  go_enter Tryd.func8, Tryd.ntmps8
  go_wp2_with fail
  refine C0.out.mono ?_
  rintro e w' ⟨rfl, rfl⟩
  go_wp2_with fail
  refine C1.out.mono ?_
  rintro e w1 ⟨rfl, hb1⟩
  have N0 := Holds.new w1 44 .u8 (zs 256)
  have N1 := N0.put boxL (by rw [LB, length_zs])
  have B1 := below_setCells (b := w1.heap.size) hb1.size (nv .u8 boxL) 0 _ (hb1.alloc hb1.size (.cells (na .u8 (zs 256)) 44))
  have C4 := Lib.hid (C3.out 0 w1.heap.size _ (HB.out.below B1 |>.more B1.size) N1.at0 (HT.out.below B1 htw))
  have N0 := Lib.hid N0
  have B1 := Lib.hid B1
  clear hb1 N1 C0 C1
  go_wp2_with (first | (with_reducible refine Arr.alloc (t := 44) _ z23 ?_) | (with_reducible refine Arr.store o23 w1.heap.size (zs 256) boxL (length_zs _) N0.out LB rfl rfl ?_) | fail)
  refine C4.out.mono ?_
  rintro e w4 ⟨h, rfl, hH, hge, hbel⟩
  have B4 := Lib.hid (B1.out.trans (hbel.mono B1.out.size))
  have HH := Lib.hid hH
  clear hbel hH C4
  go_wp2
  go_ret2
  exact ⟨h, rfl, HH.out, B4.out⟩

set_option maxHeartbeats 2000000 in
theorem words8 (bs : List Nat) (hl : bs.length = 32) (A : Option Addr) (c : Nat) (hc : 32 ≤ c) (w : World) (hb : Bys w w.heap.size A bs) (ht : Tab w 0) :
    Calls Tryd.prog 8 #[.slice A 32 c] w (Worded bs 8 w) := by
  have C0 := Lib.hid (show Calls Tryd.prog 14 #[.slice A 32 c] w fun e w' => e = .returned (.int .i64 8) ∧ w = w' from wordsOf_any A 32 c w)
  have C1 := Lib.hid (box_any w)
  have HB := Lib.hid hb
  have HT := Lib.hid ht
  have htw := ht.lt
  have LB := boxL_len
  have C3 := Lib.hid (fun o g w' h1 h2 h3 => expanded8 bs hl A c hc g o w' h1 h2 h3)
  clear hb ht
  go_enter Tryd.func8, Tryd.ntmps8
  go_wp2_with fail
  refine C0.out.mono ?_
  rintro e w' ⟨rfl, rfl⟩
  go_wp2_with fail
  refine C1.out.mono ?_
  rintro e w1 ⟨rfl, hb1⟩
  have N0 := Holds.new w1 44 .u8 (zs 256)
  have N1 := N0.put boxL (by rw [LB, length_zs])
  have B1 := below_setCells (b := w1.heap.size) hb1.size (nv .u8 boxL) 0 _ (hb1.alloc hb1.size (.cells (na .u8 (zs 256)) 44))
  have C4 := Lib.hid (C3.out 0 w1.heap.size _ (HB.out.below B1 |>.more B1.size) N1.at0 (HT.out.below B1 htw))
  have N0 := Lib.hid N0
  have B1 := Lib.hid B1
  clear hb1 N1 C0 C1
  go_wp2_with (first | (with_reducible refine Arr.alloc (t := 44) _ z23 ?_) | (with_reducible refine Arr.store o23 w1.heap.size (zs 256) boxL (length_zs _) N0.out LB rfl rfl ?_) | fail)
  refine C4.out.mono ?_
  rintro e w4 ⟨h, rfl, hH, hge, hbel⟩
  have B4 := Lib.hid (B1.out.trans (hbel.mono B1.out.size))
  have HH := Lib.hid hH
  clear hbel hH C4
  go_wp2
  go_ret2
  exact ⟨h, rfl, HH.out, B4.out⟩

end Go.Proofs.YtkpifmnojmenaaaDoor
