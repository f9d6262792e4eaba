/-
  The law's own look at the chapter's example: it answers true. Condition: the table of widths stands in its variable.
-/
import Derived.Test.YtonoidhlbnbhcaaDoorWrUnwrap
import Derived.Deep.RegionWith
namespace Go.Proofs.YtonoidhlbnbhcaaDoor
open Go.RowKit Arr Gf Sb Ae Wr

/-- The call answers the bool, and what was there is as it was. -/
def Ret (b : Bool) (w : World) (e : Ending) (w' : World) : Prop := e = .returned (.bool b) ∧ Below w.heap.size w w'
theorem made_zsW (s : Nat) : madeCells #[.int .u8 0] s = na .u8 (zs s) := by
  apply Array.ext_getElem?
  intro i
  by_cases hi : i < s
  · rw [na_get _ _ _ (by rw [length_zs]; exact hi), zs_get]
    simp [madeCells, hi, Nat.mod_one]
  · rw [Array.getElem?_eq_none (by rw [size_madeCells]; omega), Array.getElem?_eq_none (by rw [size_na, length_zs]; omega)]

set_option maxHeartbeats 1000000 in
theorem awake_any (w : World) (ht : Tab w 0) : Calls Tryd.prog 6 #[] w (Ret true w) := by
  have hmk : ∀ W : World, (Instr.makeSlice 22 (.int .i64 16) (.int .i64 16)).run Tryd.prog W = .ok (.slice (some ⟨W.heap.size, 0, none⟩) 16 16) (W.alloc (.cells (na .u8 (zs 16)) 5)) := by
    rw [← made_zsW]
    exact run_make_row' (P := Tryd.prog) 22 5 (.int .u8 0) 1 Tryd.underlying22 info_u8 rfl .i64 .i64 16 (by omega) (by omega)
  have lz : (zs 16).length = 16 := length_zs _
  have hz : ∀ x, x ∈ zs 16 → x < 256 := fun x hx => by have := List.eq_of_mem_replicate hx; omega
  have LW : (wrapL (rr (zs 16)) (kk (zs 16)) (zs 16)).length = 24 := (tx_wrapL (kk_ok (.inl lz)) 2 (by omega) lz hz).1
  have key : ∀ a b : Nat, (a = w.heap.size ∧ b = w.heap.size + 1) ∨ (a = w.heap.size + 1 ∧ b = w.heap.size) →
      Calls Tryd.prog 7 #[.slice (some ⟨a, 0, none⟩) 16 16, .slice (some ⟨b, 0, none⟩) 16 16] ((w.alloc (.cells (na .u8 (zs 16)) 5)).alloc (.cells (na .u8 (zs 16)) 5)).drew
        fun e w' => ∃ A c, e = .returned (.tuple #[.slice A 24 c, .int .i64 0]) ∧ Below w.heap.size w w' := fun a b hab => by
    have s1 : (w.alloc (.cells (na .u8 (zs 16)) 5)).heap.size = w.heap.size + 1 := World.size_alloc ..
    have h1 := ((Holds.new w 5 .u8 (zs 16)).alloc (.cells (na .u8 (zs 16)) 5)).drew
    have h2 := (Holds.new (w.alloc (.cells (na .u8 (zs 16)) 5)) 5 .u8 (zs 16)).drew
    rw [s1] at h2
    have h1' : Holds ((w.alloc (.cells (na .u8 (zs 16)) 5)).alloc (.cells (na .u8 (zs 16)) 5)).drew w.heap.size .u8 (zs 16) := h1
    have bb := below_drew (((Below.refl w.heap.size w).alloc (Nat.le_refl _) (.cells (na .u8 (zs 16)) 5)).alloc (by rw [s1]; omega) (.cells (na .u8 (zs 16)) 5))
    have ha : Bys ((w.alloc (.cells (na .u8 (zs 16)) 5)).alloc (.cells (na .u8 (zs 16)) 5)).drew ((w.alloc (.cells (na .u8 (zs 16)) 5)).alloc (.cells (na .u8 (zs 16)) 5)).drew.heap.size (some ⟨a, 0, none⟩) (zs 16) := by
      rcases hab with ⟨rfl, rfl⟩ | ⟨rfl, rfl⟩
      · exact holds_bys h1' hz
      · exact holds_bys h2 hz
    have hb : Bys ((w.alloc (.cells (na .u8 (zs 16)) 5)).alloc (.cells (na .u8 (zs 16)) 5)).drew ((w.alloc (.cells (na .u8 (zs 16)) 5)).alloc (.cells (na .u8 (zs 16)) 5)).drew.heap.size (some ⟨b, 0, none⟩) (zs 16) := by
      rcases hab with ⟨rfl, rfl⟩ | ⟨rfl, rfl⟩
      · exact holds_bys h2 hz
      · exact holds_bys h1' hz
    refine (wrap_some (zs 16) (zs 16) _ _ 16 16 16 16 lz lz (Nat.le_refl _) (fun h => by cases h) (.inl lz) rfl _ ha hb (ht.below bb ht.lt)).mono ?_
    rintro e w' ⟨A, c, rfl, -, -, -, hbel⟩
    rw [LW]
    exact ⟨A, c, rfl, bb.trans (hbel.mono bb.size)⟩
  have C1 := Lib.hid (key _ _ (.inl ⟨rfl, rfl⟩))
  have C2 := Lib.hid (key _ _ (.inr ⟨rfl, rfl⟩))
  have CZ := Lib.hid (fun w' => size_any 16 w')
  clear key ht LW lz hz
  go_enter Tryd.func6, Tryd.ntmps6
  go_wp2_with fail
  go_region_with (first
    | (go_at_call 7; (with_reducible refine C1.out.mono ?_); rintro e w1 ⟨A, c, rfl, hbel⟩)
    | (go_at_call 7; (with_reducible refine C2.out.mono ?_); rintro e w1 ⟨A, c, rfl, hbel⟩))
  all_goals go_wp2_with fail
  all_goals refine (CZ.out w1).mono ?_
  all_goals rintro e w2 ⟨rfl, rfl⟩
  all_goals rw [show may 16 = true from rfl]
  all_goals have HBE := Lib.hid hbel
  all_goals clear hbel
  all_goals go_wp2
  all_goals go_ret
  all_goals exact ⟨rfl, HBE.out⟩
end Go.Proofs.YtonoidhlbnbhcaaDoor
