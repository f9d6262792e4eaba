/-
  The reference's With: the eight numbers' bytes (its fourth loop). Conditions: the numbers lie in their row, the sum's variable is there. (Written by tools/gen_with.py.)
-/
import Derived.Test.YtmookhbijmibiaaDoorShaWithB
import Derived.Test.YtmookhbijmibiaaDoorShaRsum
namespace Go.Proofs.YtmookhbijmibiaaDoor
open Go.RowKit Arr Sh

theorem bytes4 (x : Nat) (hx : x < 4294967296) : bytesOf x 4 = [x / 16777216, x / 65536 % 256, x / 256 % 256, x % 256] := by
  simp only [bytesOf]
  rw [show (256 : Nat) ^ 3 = 16777216 by decide, show (256 : Nat) ^ 2 = 65536 by decide, show (256 : Nat) ^ 1 = 256 by decide, show (256 : Nat) ^ 0 = 1 by decide, Nat.div_one, Nat.mod_eq_of_lt (show x / 16777216 < 256 by omega)]
theorem set4_spl (l : List Nat) (a b0 b1 b2 b3 : Nat) (h : a + 4 ≤ l.length) : (((l.set a b0).set (a + 1) b1).set (a + 2) b2).set (a + 3) b3 = spl l a [b0, b1, b2, b3] := by
  apply Arr.list_eq (n := l.length) (by simp) (length_spl l a _ (by simpa using h))
  intro i hi
  rw [spl_get l a _ (by simpa using h)]
  simp only [List.getD_eq_getElem?_getD, List.getElem?_set, List.length_set]
  by_cases h3 : a + 3 = i
  · subst h3; simp [hi]
  by_cases h2 : a + 2 = i
  · subst h2; simp [hi]
  by_cases h1 : a + 1 = i
  · subst h1; simp [hi]
  by_cases h0 : a = i
  · subst h0; simp [hi]
  · rw [if_neg h3, if_neg h2, if_neg h1, if_neg h0, if_neg (by simp; omega)]

set_option maxHeartbeats 4000000 in
set_option maxRecDepth 1000000 in
theorem with_loop4 (K0 : Act → World → Prop) (Q' : Exit → Act → World → Prop) (l : List Nat) (gs cs go : Nat) (wo : World) (HW : Go.RowKit.Hid (Ws l)) (ll : l.length = 8) (hne : gs ≠ go) (HSt : Go.RowKit.Hid (Holds wo gs .u32 l)) (HOt : Go.RowKit.Hid (Holds wo go .u8 (zs 32)))
    (c0 c1 c2 c3 c4 c5 c6 c7 c9 c10 c11 c12 c13 c14 c15 c16 c17 c18 c19 c20 c21 c22 c23 c24 c27 c28 c29 c30 c31 c32 c33 c34 c35 c36 c37 c38 c39 c40 c41 c42 c43 c44 c45 c46 c47 c48 c49 c50 c51 c52 c53 c54 c55 c56 c57 c58 c59 c60 c61 c62 c63 c64 c65 c66 c67 c68 c69 c70 c71 c72 c73 c74 c75 c76 c77 c78 c79 c80 c81 c82 c83 c84 c85 c86 c87 c88 c89 c90 c91 c92 c93 c94 c95 c96 c97 c98 c99 c100 c101 c102 c103 c104 c105 c106 c107 c108 c109 c110 c111 c112 c113 c114 c115 c116 c117 c118 c119 c120 c121 c122 c123 c124 c125 c126 c127 c128 c129 c130 c131 c132 c133 c134 c135 c136 c137 c138 c139 c140 c141 c142 c143 c144 c145 c146 c147 c148 c149 c150 c151 c152 c153 c154 c155 c156 c157 c158 c159 c160 c161 c162 c163 c164 c165 c166 c167 c168 c169 c170 c171 c172 c173 c174 c175 c176 c177 c178 c179 c180 c181 c182 c183 c184 c185 c186 c187 c188 c189 c190 c191 c192 c193 c194 c195 c196 c197 c198 c199 c200 c201 c202 c203 c204 c205 c206 c207 c208 c209 c210 c211 c212 c213 c214 c215 c216 c217 c218 c219 c220 c221 c222 c223 c224 c225 c226 c227 c228 c229 c230 c231 c232 c233 c234 c235 c236 c237 c238 c239 c240 c241 c242 c243 c244 c245 c246 c247 c248 c249 c250 c251 c252 c253 c254 c255 c256 c257 c258 c259 c260 c261 c262 c263 c264 c265 c266 c267 c268 c269 c270 c271 c272 c273 c274 c275 c276 c277 c278 c279 c280 c281 c282 c283 : Value)
    (hK : ∀ (u26 u238 u239 u240 u241 u242 u243 u244 u245 u246 u247 u248 u249 u250 u251 u252 u253 u254 u255 u256 u257 u258 u259 u260 u261 u262 u263 u264 u265 u266 u267 u268 u269 u270 u271 u272 u273 u274 u275 u276 u277 u278 u279 u280 u281 u282 : Value) (wx : World), Holds wx go .u8 (lay l 8) → Only go wo wx → K0 ⟨List.toArray (c0 :: c1 :: c2 :: c3 :: c4 :: c5 :: c6 :: c7 :: (.slice (some ⟨gs, 0, none⟩) 8 cs) :: c9 :: c10 :: c11 :: c12 :: c13 :: c14 :: c15 :: c16 :: c17 :: c18 :: c19 :: c20 :: c21 :: c22 :: c23 :: c24 :: (.pointer (some ⟨go, 0, none⟩)) :: u26 :: c27 :: c28 :: c29 :: c30 :: c31 :: c32 :: c33 :: c34 :: c35 :: c36 :: c37 :: c38 :: c39 :: c40 :: c41 :: c42 :: c43 :: c44 :: c45 :: c46 :: c47 :: c48 :: c49 :: c50 :: c51 :: c52 :: c53 :: c54 :: c55 :: c56 :: c57 :: c58 :: c59 :: c60 :: c61 :: c62 :: c63 :: c64 :: c65 :: c66 :: c67 :: c68 :: c69 :: c70 :: c71 :: c72 :: c73 :: c74 :: c75 :: c76 :: c77 :: c78 :: c79 :: c80 :: c81 :: c82 :: c83 :: c84 :: c85 :: c86 :: c87 :: c88 :: c89 :: c90 :: c91 :: c92 :: c93 :: c94 :: c95 :: c96 :: c97 :: c98 :: c99 :: c100 :: c101 :: c102 :: c103 :: c104 :: c105 :: c106 :: c107 :: c108 :: c109 :: c110 :: c111 :: c112 :: c113 :: c114 :: c115 :: c116 :: c117 :: c118 :: c119 :: c120 :: c121 :: c122 :: c123 :: c124 :: c125 :: c126 :: c127 :: c128 :: c129 :: c130 :: c131 :: c132 :: c133 :: c134 :: c135 :: c136 :: c137 :: c138 :: c139 :: c140 :: c141 :: c142 :: c143 :: c144 :: c145 :: c146 :: c147 :: c148 :: c149 :: c150 :: c151 :: c152 :: c153 :: c154 :: c155 :: c156 :: c157 :: c158 :: c159 :: c160 :: c161 :: c162 :: c163 :: c164 :: c165 :: c166 :: c167 :: c168 :: c169 :: c170 :: c171 :: c172 :: c173 :: c174 :: c175 :: c176 :: c177 :: c178 :: c179 :: c180 :: c181 :: c182 :: c183 :: c184 :: c185 :: c186 :: c187 :: c188 :: c189 :: c190 :: c191 :: c192 :: c193 :: c194 :: c195 :: c196 :: c197 :: c198 :: c199 :: c200 :: c201 :: c202 :: c203 :: c204 :: c205 :: c206 :: c207 :: c208 :: c209 :: c210 :: c211 :: c212 :: c213 :: c214 :: c215 :: c216 :: c217 :: c218 :: c219 :: c220 :: c221 :: c222 :: c223 :: c224 :: c225 :: c226 :: c227 :: c228 :: c229 :: c230 :: c231 :: c232 :: c233 :: c234 :: c235 :: c236 :: c237 :: u238 :: u239 :: u240 :: u241 :: u242 :: u243 :: u244 :: u245 :: u246 :: u247 :: u248 :: u249 :: u250 :: u251 :: u252 :: u253 :: u254 :: u255 :: u256 :: u257 :: u258 :: u259 :: u260 :: u261 :: u262 :: u263 :: u264 :: u265 :: u266 :: u267 :: u268 :: u269 :: u270 :: u271 :: u272 :: u273 :: u274 :: u275 :: u276 :: u277 :: u278 :: u279 :: u280 :: u281 :: u282 :: c283 :: []), []⟩ wx) :
    Code.wp Tryd.prog (wblk 6) (Exit.then K0 Q') ⟨List.toArray (c0 :: c1 :: c2 :: c3 :: c4 :: c5 :: c6 :: c7 :: (.slice (some ⟨gs, 0, none⟩) 8 cs) :: c9 :: c10 :: c11 :: c12 :: c13 :: c14 :: c15 :: c16 :: c17 :: c18 :: c19 :: c20 :: c21 :: c22 :: c23 :: c24 :: (.pointer (some ⟨go, 0, none⟩)) :: (.int .i64 0) :: c27 :: c28 :: c29 :: c30 :: c31 :: c32 :: c33 :: c34 :: c35 :: c36 :: c37 :: c38 :: c39 :: c40 :: c41 :: c42 :: c43 :: c44 :: c45 :: c46 :: c47 :: c48 :: c49 :: c50 :: c51 :: c52 :: c53 :: c54 :: c55 :: c56 :: c57 :: c58 :: c59 :: c60 :: c61 :: c62 :: c63 :: c64 :: c65 :: c66 :: c67 :: c68 :: c69 :: c70 :: c71 :: c72 :: c73 :: c74 :: c75 :: c76 :: c77 :: c78 :: c79 :: c80 :: c81 :: c82 :: c83 :: c84 :: c85 :: c86 :: c87 :: c88 :: c89 :: c90 :: c91 :: c92 :: c93 :: c94 :: c95 :: c96 :: c97 :: c98 :: c99 :: c100 :: c101 :: c102 :: c103 :: c104 :: c105 :: c106 :: c107 :: c108 :: c109 :: c110 :: c111 :: c112 :: c113 :: c114 :: c115 :: c116 :: c117 :: c118 :: c119 :: c120 :: c121 :: c122 :: c123 :: c124 :: c125 :: c126 :: c127 :: c128 :: c129 :: c130 :: c131 :: c132 :: c133 :: c134 :: c135 :: c136 :: c137 :: c138 :: c139 :: c140 :: c141 :: c142 :: c143 :: c144 :: c145 :: c146 :: c147 :: c148 :: c149 :: c150 :: c151 :: c152 :: c153 :: c154 :: c155 :: c156 :: c157 :: c158 :: c159 :: c160 :: c161 :: c162 :: c163 :: c164 :: c165 :: c166 :: c167 :: c168 :: c169 :: c170 :: c171 :: c172 :: c173 :: c174 :: c175 :: c176 :: c177 :: c178 :: c179 :: c180 :: c181 :: c182 :: c183 :: c184 :: c185 :: c186 :: c187 :: c188 :: c189 :: c190 :: c191 :: c192 :: c193 :: c194 :: c195 :: c196 :: c197 :: c198 :: c199 :: c200 :: c201 :: c202 :: c203 :: c204 :: c205 :: c206 :: c207 :: c208 :: c209 :: c210 :: c211 :: c212 :: c213 :: c214 :: c215 :: c216 :: c217 :: c218 :: c219 :: c220 :: c221 :: c222 :: c223 :: c224 :: c225 :: c226 :: c227 :: c228 :: c229 :: c230 :: c231 :: c232 :: c233 :: c234 :: c235 :: c236 :: c237 :: c238 :: c239 :: c240 :: c241 :: c242 :: c243 :: c244 :: c245 :: c246 :: c247 :: c248 :: c249 :: c250 :: c251 :: c252 :: c253 :: c254 :: c255 :: c256 :: c257 :: c258 :: c259 :: c260 :: c261 :: c262 :: c263 :: c264 :: c265 :: c266 :: c267 :: c268 :: c269 :: c270 :: c271 :: c272 :: c273 :: c274 :: c275 :: c276 :: c277 :: c278 :: c279 :: c280 :: c281 :: c282 :: c283 :: []), []⟩ wo := by
  conv => arg 2; whnf
  have HK := Lib.hid hK
  clear hK
  have hsw : gs < wo.heap.size := HSt.out.lt (by omega)
  go_wp2_with fail
  go_loopw [26] (fun i wx => ∃ t : Nat, t ≤ 8 ∧ i = .int .i64 (t : Nat) ∧ Holds wx go .u8 (lay l t) ∧ Only go wo wx) (fun i _ => 8 - (intOf i).toNat)
  case atStart => exact ⟨0, by omega, rfl, HOt.out, Only.refl _ _⟩
  case round =>
    obtain ⟨t, ht, rfl, hH, hO⟩ := hrel
    have HH := Lib.hid hH
    have HO := Lib.hid hO
    clear hH hO
    by_cases hlt : t < 8
    · as_aux_lemma =>
      clear HK
      have tt : decide ((t : Int) < 8) = true := by simp; omega
      have ti : (t : Int) < 8 := by omega
      have hx := HW.out t
      have c1 := (HSt.out.below (Below.refl _ _) hsw).cell t (by omega)
      have c2 : wr.cell? ⟨gs, t, none⟩ = some (.int .u32 ((l.getD t 0 : Nat) : Int)) := (HO.out.cell (p := ⟨gs, t, none⟩) hsw hne).trans c1
      have HLY : Go.RowKit.Hid (lay l (t + 1) = spl (lay l t) (4 * t) (bytesOf (l.getD t 0) 4)) := Lib.hid rfl
      have LL := length_lay l t (by omega)
      clear c1
      generalize l.getD t 0 = x at *
      obtain ⟨a, ha⟩ : ∃ a, a = 4 * t := ⟨_, rfl⟩
      obtain ⟨a1, ha1⟩ : ∃ a1, a1 = a + 1 := ⟨_, rfl⟩
      obtain ⟨a2, ha2⟩ : ∃ a2, a2 = a + 2 := ⟨_, rfl⟩
      obtain ⟨a3, ha3⟩ : ∃ a3, a3 = a + 3 := ⟨_, rfl⟩
      have e0 : 4 * (t : Int) = (a : Int) := by omega
      have e1 : (a : Int) + 1 = (a1 : Int) := by omega
      have e2 : (a : Int) + 2 = (a2 : Int) := by omega
      have e3 : (a : Int) + 3 = (a3 : Int) := by omega
      have i0 : (a : Int) < 32 := by omega
      have i1 : (a1 : Int) < 32 := by omega
      have i2 : (a2 : Int) < 32 := by omega
      have i3 : (a3 : Int) < 32 := by omega
      obtain ⟨b0, hb0⟩ : ∃ b, b = x / 16777216 := ⟨_, rfl⟩
      obtain ⟨b1, hb1⟩ : ∃ b, b = x / 65536 % 256 := ⟨_, rfl⟩
      obtain ⟨b2, hb2⟩ : ∃ b, b = x / 256 % 256 := ⟨_, rfl⟩
      obtain ⟨b3, hb3⟩ : ∃ b, b = x % 256 := ⟨_, rfl⟩
      have hs := set4_spl (lay l t) a b0 b1 b2 b3 (by omega)
      rw [hb0, hb1, hb2, hb3, ← bytes4 x hx, ha, ← HLY.out, ← hb0, ← hb1, ← hb2, ← hb3, ← ha, ← ha1, ← ha2, ← ha3] at hs
      have HSS := Lib.hid hs
      generalize lay l t = L at *
      have f0 : ((x : Int) / 16777216) % 256 = (b0 : Int) := by omega
      have f0' : (x : Int) / 16777216 = (b0 : Int) := by omega
      have f1 : ((x : Int) / 65536) % 256 = (b1 : Int) := by omega
      have f2 : ((x : Int) / 256) % 256 = (b2 : Int) := by omega
      have f3 : (x : Int) % 256 = (b3 : Int) := by omega
      have cl0 := HH.out.cell a (by omega)
      have fr0 := HH.out.frozen a (by omega)
      have X0 := HH.out.set a b0 (by omega)
      have O0 := HO.out.setCell a (.int .u8 (b0 : Int))
      have cl1 := X0.cell a1 (by simp; omega)
      have fr1 := X0.frozen a1 (by simp; omega)
      have X1 := X0.set a1 b1 (by simp; omega)
      have O1 := O0.setCell a1 (.int .u8 (b1 : Int))
      have cl2 := X1.cell a2 (by simp; omega)
      have fr2 := X1.frozen a2 (by simp; omega)
      have X2 := X1.set a2 b2 (by simp; omega)
      have O2 := O1.setCell a2 (.int .u8 (b2 : Int))
      have cl3 := X2.cell a3 (by simp; omega)
      have fr3 := X2.frozen a3 (by simp; omega)
      have X3 := X2.set a3 b3 (by simp; omega)
      have O3 := O2.setCell a3 (.int .u8 (b3 : Int))
      rw [HSS.out] at X3
      have Y3 := Lib.hid X3
      have P3 := Lib.hid O3
      have g1 := (O0.cell (p := ⟨gs, t, none⟩) hsw hne).trans ((HO.out.cell (p := ⟨gs, t, none⟩) hsw hne).symm.trans c2)
      have g2 := (O1.cell (p := ⟨gs, t, none⟩) hsw hne).trans ((HO.out.cell (p := ⟨gs, t, none⟩) hsw hne).symm.trans c2)
      have g3 := (O2.cell (p := ⟨gs, t, none⟩) hsw hne).trans ((HO.out.cell (p := ⟨gs, t, none⟩) hsw hne).symm.trans c2)
      clear hs ha ha1 ha2 ha3 hb0 hb1 hb2 hb3 X0 X1 X2 X3 O0 O1 O2 O3 HSS HLY LL HH HO HSt HOt HW
      go_upto_region 45 with fail
      clear cl0 fr0 c2
      generalize wr.setCell ⟨go, a, none⟩ (.int .u8 (b0 : Int)) = wa at *
      go_upto_region 46 with fail
      clear cl1 fr1 g1
      generalize wa.setCell ⟨go, a1, none⟩ (.int .u8 (b1 : Int)) = wb at *
      go_upto_region 47 with fail
      clear cl2 fr2 g2
      generalize wb.setCell ⟨go, a2, none⟩ (.int .u8 (b2 : Int)) = wc at *
      go_wp2
      go_roundw
      case rel => exact ⟨t + 1, by omega, by go_num, Y3.out, P3.out⟩
      case measure => simp [intOf]; omega
    · obtain rfl : t = 8 := by omega
      have t1 : decide ((8 : Int) < 8) = false := by decide
      go_wp2
      exact HK.out _ _ _ _ _ _ _ _ _ _ _ _ _ _ _ _ _ _ _ _ _ _ _ _ _ _ _ _ _ _ _ _ _ _ _ _ _ _ _ _ _ _ _ _ _ _ _ HH.out HO.out
end Go.Proofs.YtmookhbijmibiaaDoor
