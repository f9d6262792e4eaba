/-
  The reference's With: the words of a piece (its second loop). Conditions: the text lies in its row. (Written by tools/gen_with.py.)
  The reference's With: the 64 steps of a piece (its third loop). Conditions: the kinds and the words lie in their rows. (Written by tools/gen_with.py.)
  The reference's With: one piece (the first loop's body). Conditions: the text, the kinds and the eight numbers lie in their rows. (Written by tools/gen_with.py.)
  The reference's With: the eight numbers' bytes (its fourth loop). Conditions: the numbers lie in their row, the sum's variable is there. (Written by tools/gen_with.py.)
  Contract of the reference's With: the sum of bytes, with the numbers that are handed over. Conditions: these are the chapter's numbers; the bytes are at most 4000. (Written by tools/gen_with.py.)
-/
import Derived.Test.YtihpjkidoingfaaDoorShaRefFns
import Derived.Test.YtihpjkidoingfaaDoorOwnMany
import Derived.Test.YtihpjkidoingfaaDoorOwnArr
import Derived.Test.YtihpjkidoingfaaDoorCutBys
import Derived.Deep.CutBlock
import Derived.Test.YtihpjkidoingfaaDoorShaWork
import Derived.Test.YtihpjkidoingfaaDoorShaRsum
namespace Go.Proofs.YtihpjkidoingfaaDoor
open Go.RowKit Arr Sh

/-- Block n of a code. -/
def blockOf (n : Nat) : Code → Option Code
  | .block k c => if k = n then some (.block k c) else blockOf n c
  | .seq a b => match blockOf n a with
    | some c => some c
    | none => blockOf n b
  | .loop c => blockOf n c
  | .scope c => blockOf n c
  | .cond _ a b => match blockOf n a with
    | some c => some c
    | none => blockOf n b
  | _ => none
noncomputable def wblk (n : Nat) : Code := (Tryd.f32.body.bind (blockOf n)).getD .skip

theorem info_w32 : (Tryd.prog.info? 60).map (fun i => (i.zero, i.size, i.bytes)) = some (some (.int .u32 0), 1, 4) := by kernel_rfl
/-- What stands when the words are made. -/
def Worded (P : List Nat) (wo : World) (v : Value) (wx : World) : Prop := ∃ gw cw, v = .slice (some ⟨gw, 0, none⟩) 64 cw ∧ Holds wx gw .u32 (ws P) ∧ wo.heap.size ≤ gw ∧ Below wo.heap.size wo wx

set_option maxHeartbeats 4000000 in
set_option maxRecDepth 1000000 in
theorem with_loop2 (K : Act → World → Prop) (Q' : Exit → Act → World → Prop) (hQp : ∀ c (d : Tmp) v a w, Q' (.panic c) (a.put (some d) v) w → Q' (.panic c) a w) (P TT : List Nat) (T p gm cm : Nat) (wo : World) (PB : Go.RowKit.Hid (∀ x, x ∈ P → x < 256)) (P16 : Go.RowKit.Hid (∀ t, t < 16 → w16 P t = num ((TT.drop (p + 4 * t)).take 4))) (HTL : Go.RowKit.Hid (TT.length = T)) (hTc : T ≤ cm) (hT2 : T ≤ 4072) (hp64 : p + 64 ≤ T) (HT : Go.RowKit.Hid (Bys wo wo.heap.size (some ⟨gm, 0, none⟩) TT))
    (c0 c1 c2 c3 c4 c5 c6 c8 c12 c13 c14 c15 c16 c17 c18 c19 c20 c21 c22 c23 c24 c25 c26 c27 c28 c29 c30 c31 c32 c33 c34 c35 c36 c37 c38 c39 c40 c41 c42 c43 c44 c45 c46 c47 c48 c49 c50 c51 c52 c53 c54 c55 c56 c57 c58 c59 c60 c61 c62 c63 c64 c65 c66 c67 c68 c69 c70 c71 c72 c73 c74 c75 c76 c77 c78 c79 c80 c81 c82 c83 c84 c85 c86 c87 c88 c89 c90 c91 c92 c93 c94 c95 c96 c97 c98 c99 c100 c101 c102 c103 c104 c105 c106 c107 c108 c109 c110 c111 c112 c113 c114 c115 c116 c117 c118 c119 c120 c121 c122 c123 c124 c125 c126 c127 c128 c129 c130 c131 c132 c133 c134 c135 c136 c137 c138 c139 c140 c141 c142 c143 c144 c145 c146 c147 c148 c149 c150 c151 c152 c153 c154 c155 c156 c157 c158 c159 c160 c161 c162 c163 c164 c165 c166 c167 c168 c169 c170 c171 c172 c173 c174 c175 c176 c177 c178 c179 c180 c181 c182 c183 c184 c185 c186 c187 c188 c189 c190 c191 c192 c193 c194 c195 c196 c197 c198 c199 c200 c201 c202 c203 c204 c205 c206 c207 c208 c209 c210 c211 c212 c213 c214 c215 c216 c217 c218 c219 c220 c221 c222 c223 c224 c225 c226 c227 c228 c229 c230 c231 c232 c233 c234 c235 c236 c237 c238 c239 c240 c241 c242 c243 c244 c245 c246 c247 c248 c249 c250 c251 c252 c253 c254 c255 c256 c257 c258 c259 c260 c261 c262 c263 c264 c265 c266 c267 c268 c269 c270 c271 c272 c273 c274 c275 c276 c277 c278 c279 c280 c281 c282 c283 : Value)
    (hK : ∀ (u10 u11 u12 u13 u44 u45 u46 u47 u48 u49 u50 u51 u52 u53 u54 u55 u56 u57 u58 u59 u60 u61 u62 u63 u64 u65 u66 u67 u68 u69 u70 u71 u72 u73 u74 u75 u76 u77 u78 u79 u80 u81 u82 u83 u84 u85 u86 u87 u88 u89 u90 u91 u92 u93 u94 u95 u96 u97 u98 u99 u100 u101 u102 u103 u104 u105 u106 u107 : Value) (wx : World), Worded P wo u10 wx → K ⟨List.toArray (c0 :: c1 :: c2 :: c3 :: c4 :: c5 :: c6 :: (.slice (some ⟨gm, 0, none⟩) T cm) :: c8 :: (.int .i64 (p : Int)) :: u10 :: u11 :: u12 :: u13 :: c14 :: c15 :: c16 :: c17 :: c18 :: c19 :: c20 :: c21 :: c22 :: c23 :: c24 :: c25 :: c26 :: c27 :: c28 :: c29 :: c30 :: c31 :: c32 :: c33 :: c34 :: c35 :: c36 :: c37 :: c38 :: c39 :: c40 :: c41 :: c42 :: c43 :: u44 :: u45 :: u46 :: u47 :: u48 :: u49 :: u50 :: u51 :: u52 :: u53 :: u54 :: u55 :: u56 :: u57 :: u58 :: u59 :: u60 :: u61 :: u62 :: u63 :: u64 :: u65 :: u66 :: u67 :: u68 :: u69 :: u70 :: u71 :: u72 :: u73 :: u74 :: u75 :: u76 :: u77 :: u78 :: u79 :: u80 :: u81 :: u82 :: u83 :: u84 :: u85 :: u86 :: u87 :: u88 :: u89 :: u90 :: u91 :: u92 :: u93 :: u94 :: u95 :: u96 :: u97 :: u98 :: u99 :: u100 :: u101 :: u102 :: u103 :: u104 :: u105 :: u106 :: u107 :: c108 :: c109 :: c110 :: c111 :: c112 :: c113 :: c114 :: c115 :: c116 :: c117 :: c118 :: c119 :: c120 :: c121 :: c122 :: c123 :: c124 :: c125 :: c126 :: c127 :: c128 :: c129 :: c130 :: c131 :: c132 :: c133 :: c134 :: c135 :: c136 :: c137 :: c138 :: c139 :: c140 :: c141 :: c142 :: c143 :: c144 :: c145 :: c146 :: c147 :: c148 :: c149 :: c150 :: c151 :: c152 :: c153 :: c154 :: c155 :: c156 :: c157 :: c158 :: c159 :: c160 :: c161 :: c162 :: c163 :: c164 :: c165 :: c166 :: c167 :: c168 :: c169 :: c170 :: c171 :: c172 :: c173 :: c174 :: c175 :: c176 :: c177 :: c178 :: c179 :: c180 :: c181 :: c182 :: c183 :: c184 :: c185 :: c186 :: c187 :: c188 :: c189 :: c190 :: c191 :: c192 :: c193 :: c194 :: c195 :: c196 :: c197 :: c198 :: c199 :: c200 :: c201 :: c202 :: c203 :: c204 :: c205 :: c206 :: c207 :: c208 :: c209 :: c210 :: c211 :: c212 :: c213 :: c214 :: c215 :: c216 :: c217 :: c218 :: c219 :: c220 :: c221 :: c222 :: c223 :: c224 :: c225 :: c226 :: c227 :: c228 :: c229 :: c230 :: c231 :: c232 :: c233 :: c234 :: c235 :: c236 :: c237 :: c238 :: c239 :: c240 :: c241 :: c242 :: c243 :: c244 :: c245 :: c246 :: c247 :: c248 :: c249 :: c250 :: c251 :: c252 :: c253 :: c254 :: c255 :: c256 :: c257 :: c258 :: c259 :: c260 :: c261 :: c262 :: c263 :: c264 :: c265 :: c266 :: c267 :: c268 :: c269 :: c270 :: c271 :: c272 :: c273 :: c274 :: c275 :: c276 :: c277 :: c278 :: c279 :: c280 :: c281 :: c282 :: c283 :: []), []⟩ wx) :
    Code.wp Tryd.prog (wblk 2) (Exit.then K Q') ⟨List.toArray (c0 :: c1 :: c2 :: c3 :: c4 :: c5 :: c6 :: (.slice (some ⟨gm, 0, none⟩) T cm) :: c8 :: (.int .i64 (p : Int)) :: (.slice none 0 0) :: (.int .i64 0) :: c12 :: c13 :: c14 :: c15 :: c16 :: c17 :: c18 :: c19 :: c20 :: c21 :: c22 :: c23 :: c24 :: c25 :: c26 :: c27 :: c28 :: c29 :: c30 :: c31 :: c32 :: c33 :: c34 :: c35 :: c36 :: c37 :: c38 :: c39 :: c40 :: c41 :: c42 :: c43 :: c44 :: c45 :: c46 :: c47 :: c48 :: c49 :: c50 :: c51 :: c52 :: c53 :: c54 :: c55 :: c56 :: c57 :: c58 :: c59 :: c60 :: c61 :: c62 :: c63 :: c64 :: c65 :: c66 :: c67 :: c68 :: c69 :: c70 :: c71 :: c72 :: c73 :: c74 :: c75 :: c76 :: c77 :: c78 :: c79 :: c80 :: c81 :: c82 :: c83 :: c84 :: c85 :: c86 :: c87 :: c88 :: c89 :: c90 :: c91 :: c92 :: c93 :: c94 :: c95 :: c96 :: c97 :: c98 :: c99 :: c100 :: c101 :: c102 :: c103 :: c104 :: c105 :: c106 :: c107 :: c108 :: c109 :: c110 :: c111 :: c112 :: c113 :: c114 :: c115 :: c116 :: c117 :: c118 :: c119 :: c120 :: c121 :: c122 :: c123 :: c124 :: c125 :: c126 :: c127 :: c128 :: c129 :: c130 :: c131 :: c132 :: c133 :: c134 :: c135 :: c136 :: c137 :: c138 :: c139 :: c140 :: c141 :: c142 :: c143 :: c144 :: c145 :: c146 :: c147 :: c148 :: c149 :: c150 :: c151 :: c152 :: c153 :: c154 :: c155 :: c156 :: c157 :: c158 :: c159 :: c160 :: c161 :: c162 :: c163 :: c164 :: c165 :: c166 :: c167 :: c168 :: c169 :: c170 :: c171 :: c172 :: c173 :: c174 :: c175 :: c176 :: c177 :: c178 :: c179 :: c180 :: c181 :: c182 :: c183 :: c184 :: c185 :: c186 :: c187 :: c188 :: c189 :: c190 :: c191 :: c192 :: c193 :: c194 :: c195 :: c196 :: c197 :: c198 :: c199 :: c200 :: c201 :: c202 :: c203 :: c204 :: c205 :: c206 :: c207 :: c208 :: c209 :: c210 :: c211 :: c212 :: c213 :: c214 :: c215 :: c216 :: c217 :: c218 :: c219 :: c220 :: c221 :: c222 :: c223 :: c224 :: c225 :: c226 :: c227 :: c228 :: c229 :: c230 :: c231 :: c232 :: c233 :: c234 :: c235 :: c236 :: c237 :: c238 :: c239 :: c240 :: c241 :: c242 :: c243 :: c244 :: c245 :: c246 :: c247 :: c248 :: c249 :: c250 :: c251 :: c252 :: c253 :: c254 :: c255 :: c256 :: c257 :: c258 :: c259 :: c260 :: c261 :: c262 :: c263 :: c264 :: c265 :: c266 :: c267 :: c268 :: c269 :: c270 :: c271 :: c272 :: c273 :: c274 :: c275 :: c276 :: c277 :: c278 :: c279 :: c280 :: c281 :: c282 :: c283 :: []), []⟩ wo := by
  conv => arg 2; whnf
  have HK := Lib.hid hK
  clear hK
  go_wp2_with fail
  go_loopw [10, 11] (fun v i wx => ∃ (t : Nat) (l : List Nat), t ≤ 64 ∧ i = .int .i64 (t : Nat) ∧ l.length = t ∧ Ws l ∧ (t ≤ 16 → l = firsts P t) ∧ (16 ≤ t → ext (64 - t) l = ws P) ∧ wx.ownsRow wo.heap.size 60 1 v t (vals .u32 l) ∧ Below wo.heap.size wo wx) (fun _ i _ => 64 - (intOf i).toNat)
  case atStart => exact ⟨0, [], by omega, rfl, rfl, fun i => by simp, fun _ => rfl, fun h => by omega, World.ownsRow_nil _ _ _ _, Below.refl _ _⟩
  case round =>
    obtain ⟨t, l, ht, rfl, hll, hlw, hl1, hl2, hown, hbel⟩ := hrel
    have HO := Lib.hid hown
    have HBl := Lib.hid hbel
    have HLW := Lib.hid hlw
    have HL1 := Lib.hid hl1
    have HL2 := Lib.hid hl2
    have HLL := Lib.hid hll
    have hsz := hbel.size
    clear hown hbel hlw hl1 hl2 hll
    by_cases h16 : t < 16
    · as_aux_lemma =>
      clear HK
      have t1 : decide ((t : Int) < 64) = true := by simp; omega
      have t2 : decide ((t : Int) < 16) = true := by simp; omega
      obtain ⟨u, hu⟩ : ∃ u, u = p + 4 * t := ⟨_, rfl⟩
      have e1 : (p : Int) + 4 * (t : Int) = (u : Int) := by omega
      obtain ⟨u4, hu4⟩ : ∃ u4, u4 = u + 4 := ⟨_, rfl⟩
      have e2 : (u : Int) + 4 = (u4 : Int) := by omega
      have r1 := run_cut_lh (some ⟨gm, 0, none⟩) T cm u u4 (by omega) (by omega)
      rw [show u4 - u = 4 by omega] at r1
      have hbb := (HT.out.below HBl.out)
      have hbc := bys_cut hbb cm (by rw [HTL.out]; exact hTc) u (u + 4) (by omega) (by rw [HTL.out]; omega)
      rw [show u + 4 - u = 4 by omega] at hbc
      have hlc : ((TT.drop u).take 4).length = 4 := by rw [List.length_take, List.length_drop, HTL.out]; omega
      have C1 := rget64_any (cutA (some ⟨gm, 0, none⟩) cm u) 4 (cm - u) ((TT.drop u).take 4) hlc (by omega) wr _ hbc
      have hw16 := P16.out t h16
      rw [← hu] at hw16
      have hlt16 := w16_lt P PB.out t
      rw [← hw16] at C1
      have HL1' : Go.RowKit.Hid (l ++ [w16 P t] = firsts P (t + 1)) := Lib.hid (by rw [firsts_snoc, HL1.out (by omega)])
      have C2 := Lib.hid C1
      have WS := Lib.hid (HLW.out.snoc hlt16)
      have LN : Go.RowKit.Hid ((l ++ [w16 P t]).length = t + 1) := Lib.hid (by rw [List.length_append, HLL.out]; rfl)
      have EX : Go.RowKit.Hid (t + 1 = 16 → ext (64 - (t + 1)) (firsts P (t + 1)) = ws P) := Lib.hid (fun h => by rw [h]; rfl)
      generalize w16 P t = x at *
      have wx1 : IntKind.u32.wrap (x : Int) = (x : Int) := by rw [IntKind.wrap_u32]; omega
      generalize cutA (some ⟨gm, 0, none⟩) cm u = cA at *
      clear hu hu4 hbb hbc hlc C1 hw16 HT P16 PB HTL HL1 HL2 HLW HLL
      go_wp2_with fail
      refine C2.out.mono ?_
      rintro e w' ⟨rfl, rfl⟩
      go_wp2_with (at_builtin; refine append_one rfl (.tmp 50) (.tmp 64) 61 rfl wo.heap.size 60 (.int .u32 0) 4 Tryd.underlying61 info_w32 rfl _ t _ (.int .u32 (x : Int)) rfl HO.out rfl rfl (by omega) (by omega) hsz ?_; intro v' w6 hown6 hbel6)
      rw [← vals_snoc] at hown6
      go_roundw
      case rel => exact ⟨t + 1, l ++ [x], by omega, by go_num, LN.out, WS.out, fun _ => HL1'.out, fun h => by rw [HL1'.out]; exact EX.out (by omega), hown6, HBl.out.trans hbel6⟩
      case measure => simp [intOf]; omega
    · by_cases h64 : t < 64
      · as_aux_lemma =>
        clear HK HT P16 PB HTL hTc hp64 hT2
        have t1 : decide ((t : Int) < 64) = true := by simp; omega
        have t2 : decide ((t : Int) < 16) = false := by simp; omega
        obtain ⟨gw, cw, rfl, hgw2, hcw, -, hHw⟩ := holds_of_owns HO.out (by omega)
        have hl2 := HL2.out (by omega)
        rw [show 64 - t = (64 - (t + 1)) + 1 by omega] at hl2
        have hl2' : ext (64 - (t + 1)) (l ++ [nxt l]) = ws P := hl2
        have HL2' := Lib.hid hl2'
        obtain ⟨m1, hm1⟩ : ∃ m, m = t - 16 := ⟨_, rfl⟩
        obtain ⟨m2, hm2⟩ : ∃ m, m = t - 15 := ⟨_, rfl⟩
        obtain ⟨m3, hm3⟩ : ∃ m, m = t - 7 := ⟨_, rfl⟩
        obtain ⟨m4, hm4⟩ : ∃ m, m = t - 2 := ⟨_, rfl⟩
        have e1 : (t : Int) - 16 = (m1 : Int) := by omega
        have e2 : (t : Int) - 15 = (m2 : Int) := by omega
        have e3 : (t : Int) - 7 = (m3 : Int) := by omega
        have e4 : (t : Int) - 2 = (m4 : Int) := by omega
        have b1 : (m1 : Int) < (t : Int) := by omega
        have b2 : (m2 : Int) < (t : Int) := by omega
        have b3 : (m3 : Int) < (t : Int) := by omega
        have b4 : (m4 : Int) < (t : Int) := by omega
        have w1 := wrap_nat m1 (by omega)
        have w2 := wrap_nat m2 (by omega)
        have w3 := wrap_nat m3 (by omega)
        have w4 := wrap_nat m4 (by omega)
        have hll := HLL.out
        have hn : nxt l = (((l.getD m1 0 + duo (l.getD m2 0) 7 18 3) % 4294967296 + l.getD m3 0) % 4294967296 + duo (l.getD m4 0) 17 19 10) % 4294967296 := by
          rw [nxt, hll, ← hm1, ← hm2, ← hm3, ← hm4]
        have g1 := hHw.cell m1 (by omega)
        have g2 := hHw.cell m2 (by omega)
        have g3 := hHw.cell m3 (by omega)
        have g4 := hHw.cell m4 (by omega)
        have k1 := HLW.out m1
        have k2 := HLW.out m2
        have k3 := HLW.out m3
        have k4 := HLW.out m4
        have WS := Lib.hid (HLW.out.snoc (nxt_lt l))
        have LN : Go.RowKit.Hid ((l ++ [nxt l]).length = t + 1) := Lib.hid (by rw [List.length_append, hll]; rfl)
        have hnl := nxt_lt l
        clear hl2 hl2' hHw hm1 hm2 hm3 hm4 hll HL1 HL2 HLW HLL
        generalize l.getD m1 0 = l1 at *
        generalize l.getD m2 0 = l2 at *
        generalize l.getD m3 0 = l3 at *
        generalize l.getD m4 0 = l4 at *
        have CT : Go.RowKit.Hid (∀ (x n : Nat), x < 4294967296 → n < 32 → ∀ w', Calls Tryd.prog 38 #[.int .u32 (x : Int), .int .i64 (n : Int)] w' fun e w'' => e = .returned (.int .u32 ((rot x n : Nat) : Int)) ∧ w'' = w') := Lib.hid (fun x n h1 h2 w' => (turn_any x n h1 h2 w').mono fun e w'' h => ⟨h.1, h.2.symm⟩)
        have CH : Go.RowKit.Hid (∀ (x n : Nat), x < 4294967296 → n < 32 → ∀ w', Calls Tryd.prog 39 #[.int .u32 (x : Int), .int .i64 (n : Int)] w' fun e w'' => e = .returned (.int .u32 ((x / 2 ^ n : Nat) : Int)) ∧ w'' = w') := Lib.hid (fun x n h1 h2 w' => (shift_any x n h1 h2 w').mono fun e w'' h => ⟨h.1, h.2.symm⟩)
        have D1 : Go.RowKit.Hid (∀ w', Calls Tryd.prog 38 #[.int .u32 (l2 : Int), .int .i64 7] w' fun e w'' => e = .returned (.int .u32 ((rot l2 7 : Nat) : Int)) ∧ w'' = w') := Lib.hid (CT.out l2 7 k2 (by omega))
        have D2 : Go.RowKit.Hid (∀ w', Calls Tryd.prog 38 #[.int .u32 (l2 : Int), .int .i64 18] w' fun e w'' => e = .returned (.int .u32 ((rot l2 18 : Nat) : Int)) ∧ w'' = w') := Lib.hid (CT.out l2 18 k2 (by omega))
        have D3 : Go.RowKit.Hid (∀ w', Calls Tryd.prog 39 #[.int .u32 (l2 : Int), .int .i64 3] w' fun e w'' => e = .returned (.int .u32 ((l2 / 2 ^ 3 : Nat) : Int)) ∧ w'' = w') := Lib.hid (CH.out l2 3 k2 (by omega))
        have D4 : Go.RowKit.Hid (∀ w', Calls Tryd.prog 38 #[.int .u32 (l4 : Int), .int .i64 17] w' fun e w'' => e = .returned (.int .u32 ((rot l4 17 : Nat) : Int)) ∧ w'' = w') := Lib.hid (CT.out l4 17 k4 (by omega))
        have D5 : Go.RowKit.Hid (∀ w', Calls Tryd.prog 38 #[.int .u32 (l4 : Int), .int .i64 19] w' fun e w'' => e = .returned (.int .u32 ((rot l4 19 : Nat) : Int)) ∧ w'' = w') := Lib.hid (CT.out l4 19 k4 (by omega))
        have D6 : Go.RowKit.Hid (∀ w', Calls Tryd.prog 39 #[.int .u32 (l4 : Int), .int .i64 10] w' fun e w'' => e = .returned (.int .u32 ((l4 / 2 ^ 10 : Nat) : Int)) ∧ w'' = w') := Lib.hid (CH.out l4 10 k4 (by omega))
        have q1 := u32_xor_nat _ _ (rot_lt l2 7 k2 (by omega)) (rot_lt l2 18 k2 (by omega))
        have q2 : bits .xor .u32 ((rot l2 7 ^^^ rot l2 18 : Nat) : Int) ((l2 / 2 ^ 3 : Nat) : Int) = ((duo l2 7 18 3 : Nat) : Int) := u32_xor_nat _ _ (xor32 (rot_lt l2 7 k2 (by omega)) (rot_lt l2 18 k2 (by omega))) (Nat.lt_of_le_of_lt (Nat.div_le_self _ _) k2)
        have q3 := u32_xor_nat _ _ (rot_lt l4 17 k4 (by omega)) (rot_lt l4 19 k4 (by omega))
        have q4 : bits .xor .u32 ((rot l4 17 ^^^ rot l4 19 : Nat) : Int) ((l4 / 2 ^ 10 : Nat) : Int) = ((duo l4 17 19 10 : Nat) : Int) := u32_xor_nat _ _ (xor32 (rot_lt l4 17 k4 (by omega)) (rot_lt l4 19 k4 (by omega))) (Nat.lt_of_le_of_lt (Nat.div_le_self _ _) k4)
        generalize duo l2 7 18 3 = d1 at *
        generalize duo l4 17 19 10 = d2 at *
        have y1 := add_u32 l1 d1
        have y2 := add_u32 ((l1 + d1) % 4294967296) l3
        have y3 := add_u32 (((l1 + d1) % 4294967296 + l3) % 4294967296) d2
        rw [← hn] at y3
        generalize ((l1 + d1) % 4294967296 + l3) % 4294967296 = x2 at *
        generalize (l1 + d1) % 4294967296 = x1 at *
        clear hn CT CH
        generalize nxt l = x3 at *
        generalize rot l2 7 ^^^ rot l2 18 = z1 at *
        generalize rot l4 17 ^^^ rot l4 19 = z2 at *
        generalize rot l2 7 = z3 at *
        generalize rot l2 18 = z4 at *
        generalize l2 / 2 ^ 3 = z5 at *
        generalize rot l4 17 = z6 at *
        generalize rot l4 19 = z7 at *
        generalize l4 / 2 ^ 10 = z8 at *
        go_upto_region 17 with fail
        refine region_move_quiet_tail 30 (by kernel_rfl) (by kernel_rfl) (.tmp 10) (.slice (some ⟨gw, 0, none⟩) t cw) rfl rfl rfl (fun _ _ _ _ h => hQp _ _ _ _ _ h) ?_
        simp only [List.take_succ_cons, List.take_zero, List.drop_succ_cons, List.drop_zero, Nat.add_one_sub_one, Act.put, List.setIfInBounds_toArray, List.set_cons_zero, List.set_cons_succ]
        repeat (go_big_quiet_step (first | (go_at_call 38; first | (with_reducible exact Calls.quiet_of_same (D1.out _)) | (with_reducible exact Calls.quiet_of_same (D2.out _)) | (with_reducible exact Calls.quiet_of_same (D4.out _)) | (with_reducible exact Calls.quiet_of_same (D5.out _))) | (go_at_call 39; first | (with_reducible exact Calls.quiet_of_same (D3.out _)) | (with_reducible exact Calls.quiet_of_same (D6.out _)))))
        refine wpQuiet_nil ?_
        intro wd hwd
        have G1 : wd.ownsRow wo.heap.size 60 1 (.slice (some ⟨gw, 0, none⟩) t cw) t (vals .u32 l) := by obtain ⟨n, rfl⟩ := hwd; exact HO.out
        have G2 : Below wo.heap.size wo wd := by obtain ⟨n, rfl⟩ := hwd; exact below_drewN HBl.out n
        have hszd := G2.size
        have GO := Lib.hid G1
        have GB := Lib.hid G2
        clear hwd G1 G2 g1 g2 g3 g4 y1 y2 y3 q1 q2 q3 q4 D1 D2 D3 D4 D5 D6 HO HBl
        go_wp2_with (at_builtin; refine append_one rfl (.tmp 76) (.tmp 106) 61 rfl wo.heap.size 60 (.int .u32 0) 4 Tryd.underlying61 info_w32 rfl _ t _ (.int .u32 (x3 : Int)) rfl GO.out rfl rfl (by omega) (by omega) hszd ?_; intro v' w6 hown6 hbel6)
        rw [← vals_snoc] at hown6
        go_roundw
        case rel => exact ⟨t + 1, l ++ [x3], by omega, by go_num, LN.out, WS.out, fun h => by omega, fun _ => HL2'.out, hown6, GB.out.trans hbel6⟩
        case measure => simp [intOf]; omega
      · obtain rfl : t = 64 := by omega
        have t1 : decide ((64 : Int) < 64) = false := by decide
        have e3 : l = ws P := HL2.out (by omega)
        rw [e3] at HO
        obtain ⟨gw, cw, rfl, hgw2, hcw, -, hHw⟩ := holds_of_owns HO.out (by omega)
        have HHw := Lib.hid hHw
        clear hHw e3 HT P16 PB HTL HO HL1 HL2 HLW HLL
        go_wp2
        refine HK.out _ _ _ _ _ _ _ _ _ _ _ _ _ _ _ _ _ _ _ _ _ _ _ _ _ _ _ _ _ _ _ _ _ _ _ _ _ _ _ _ _ _ _ _ _ _ _ _ _ _ _ _ _ _ _ _ _ _ _ _ _ _ _ _ _ _ _ _ _ ?_
        exact ⟨gw, cw, rfl, HHw.out, hgw2, HBl.out⟩
end Go.Proofs.YtihpjkidoingfaaDoor
namespace Go.Proofs.YtihpjkidoingfaaDoor
open Go.RowKit Arr Sh

set_option maxHeartbeats 4000000 in
set_option maxRecDepth 1000000 in
theorem with_loop3 (K0 : Act → World → Prop) (Q' : Exit → Act → World → Prop) (s : St) (wl : List Nat) (gk ck gw cw : Nat) (wo : World) (HS : Go.RowKit.Hid s.Ok) (HWW : Go.RowKit.Hid (Ws wl)) (lw : wl.length = 64) (HKt : Go.RowKit.Hid (Tab32 wo gk K)) (HWt : Go.RowKit.Hid (Holds wo gw .u32 wl))
    (c1 c2 c3 c4 c5 c6 c7 c8 c9 c11 c12 c13 c23 c24 c25 c26 c27 c28 c29 c30 c31 c32 c33 c34 c35 c36 c37 c38 c39 c40 c41 c42 c43 c44 c45 c46 c47 c48 c49 c50 c51 c52 c53 c54 c55 c56 c57 c58 c59 c60 c61 c62 c63 c64 c65 c66 c67 c68 c69 c70 c71 c72 c73 c74 c75 c76 c77 c78 c79 c80 c81 c82 c83 c84 c85 c86 c87 c88 c89 c90 c91 c92 c93 c94 c95 c96 c97 c98 c99 c100 c101 c102 c103 c104 c105 c106 c107 c108 c109 c110 c111 c112 c113 c114 c115 c116 c117 c118 c119 c120 c121 c122 c123 c124 c125 c126 c127 c128 c129 c130 c131 c132 c133 c134 c135 c136 c137 c138 c139 c140 c141 c142 c143 c144 c145 c146 c147 c148 c149 c150 c151 c152 c153 c154 c155 c156 c157 c158 c159 c160 c161 c162 c163 c164 c165 c166 c167 c168 c169 c170 c171 c172 c173 c174 c175 c176 c177 c178 c179 c180 c181 c182 c183 c184 c185 c186 c187 c188 c189 c190 c191 c192 c193 c194 c195 c196 c197 c198 c199 c200 c201 c202 c203 c204 c205 c206 c207 c208 c209 c210 c211 c212 c213 c214 c215 c216 c217 c218 c219 c220 c221 c222 c223 c224 c225 c226 c227 c228 c229 c230 c231 c232 c233 c234 c235 c236 c237 c238 c239 c240 c241 c242 c243 c244 c245 c246 c247 c248 c249 c250 c251 c252 c253 c254 c255 c256 c257 c258 c259 c260 c261 c262 c263 c264 c265 c266 c267 c268 c269 c270 c271 c272 c273 c274 c275 c276 c277 c278 c279 c280 c281 c282 c283 : Value)
    (hK : ∀ (u22 u23 u24 u132 u133 u134 u135 u136 u137 u138 u139 u140 u141 u142 u143 u144 u145 u146 u147 u148 u149 u150 u151 u152 u153 u154 u155 u156 u157 u158 u159 u160 u161 u162 u163 u164 u165 u166 u167 u168 u169 u170 u171 u172 u173 u174 u175 u176 u177 u178 u179 u180 u181 u182 u183 u184 u185 u186 u187 u188 u189 u190 u191 u192 u193 u194 u195 u196 : Value) (wx : World), (∃ n, wx = wo.drewN n) → K0 ⟨List.toArray ((.slice (some ⟨gk, 0, none⟩) 64 ck) :: c1 :: c2 :: c3 :: c4 :: c5 :: c6 :: c7 :: c8 :: c9 :: (.slice (some ⟨gw, 0, none⟩) 64 cw) :: c11 :: c12 :: c13 :: (.int .u32 ((run wl 64 s).a : Int)) :: (.int .u32 ((run wl 64 s).b : Int)) :: (.int .u32 ((run wl 64 s).c : Int)) :: (.int .u32 ((run wl 64 s).d : Int)) :: (.int .u32 ((run wl 64 s).e : Int)) :: (.int .u32 ((run wl 64 s).f : Int)) :: (.int .u32 ((run wl 64 s).g : Int)) :: (.int .u32 ((run wl 64 s).h : Int)) :: u22 :: u23 :: u24 :: c25 :: c26 :: c27 :: c28 :: c29 :: c30 :: c31 :: c32 :: c33 :: c34 :: c35 :: c36 :: c37 :: c38 :: c39 :: c40 :: c41 :: c42 :: c43 :: c44 :: c45 :: c46 :: c47 :: c48 :: c49 :: c50 :: c51 :: c52 :: c53 :: c54 :: c55 :: c56 :: c57 :: c58 :: c59 :: c60 :: c61 :: c62 :: c63 :: c64 :: c65 :: c66 :: c67 :: c68 :: c69 :: c70 :: c71 :: c72 :: c73 :: c74 :: c75 :: c76 :: c77 :: c78 :: c79 :: c80 :: c81 :: c82 :: c83 :: c84 :: c85 :: c86 :: c87 :: c88 :: c89 :: c90 :: c91 :: c92 :: c93 :: c94 :: c95 :: c96 :: c97 :: c98 :: c99 :: c100 :: c101 :: c102 :: c103 :: c104 :: c105 :: c106 :: c107 :: c108 :: c109 :: c110 :: c111 :: c112 :: c113 :: c114 :: c115 :: c116 :: c117 :: c118 :: c119 :: c120 :: c121 :: c122 :: c123 :: c124 :: c125 :: c126 :: c127 :: c128 :: c129 :: c130 :: c131 :: u132 :: u133 :: u134 :: u135 :: u136 :: u137 :: u138 :: u139 :: u140 :: u141 :: u142 :: u143 :: u144 :: u145 :: u146 :: u147 :: u148 :: u149 :: u150 :: u151 :: u152 :: u153 :: u154 :: u155 :: u156 :: u157 :: u158 :: u159 :: u160 :: u161 :: u162 :: u163 :: u164 :: u165 :: u166 :: u167 :: u168 :: u169 :: u170 :: u171 :: u172 :: u173 :: u174 :: u175 :: u176 :: u177 :: u178 :: u179 :: u180 :: u181 :: u182 :: u183 :: u184 :: u185 :: u186 :: u187 :: u188 :: u189 :: u190 :: u191 :: u192 :: u193 :: u194 :: u195 :: u196 :: c197 :: c198 :: c199 :: c200 :: c201 :: c202 :: c203 :: c204 :: c205 :: c206 :: c207 :: c208 :: c209 :: c210 :: c211 :: c212 :: c213 :: c214 :: c215 :: c216 :: c217 :: c218 :: c219 :: c220 :: c221 :: c222 :: c223 :: c224 :: c225 :: c226 :: c227 :: c228 :: c229 :: c230 :: c231 :: c232 :: c233 :: c234 :: c235 :: c236 :: c237 :: c238 :: c239 :: c240 :: c241 :: c242 :: c243 :: c244 :: c245 :: c246 :: c247 :: c248 :: c249 :: c250 :: c251 :: c252 :: c253 :: c254 :: c255 :: c256 :: c257 :: c258 :: c259 :: c260 :: c261 :: c262 :: c263 :: c264 :: c265 :: c266 :: c267 :: c268 :: c269 :: c270 :: c271 :: c272 :: c273 :: c274 :: c275 :: c276 :: c277 :: c278 :: c279 :: c280 :: c281 :: c282 :: c283 :: []), []⟩ wx) :
    Code.wp Tryd.prog (wblk 4) (Exit.then K0 Q') ⟨List.toArray ((.slice (some ⟨gk, 0, none⟩) 64 ck) :: c1 :: c2 :: c3 :: c4 :: c5 :: c6 :: c7 :: c8 :: c9 :: (.slice (some ⟨gw, 0, none⟩) 64 cw) :: c11 :: c12 :: c13 :: (.int .u32 (s.a : Int)) :: (.int .u32 (s.b : Int)) :: (.int .u32 (s.c : Int)) :: (.int .u32 (s.d : Int)) :: (.int .u32 (s.e : Int)) :: (.int .u32 (s.f : Int)) :: (.int .u32 (s.g : Int)) :: (.int .u32 (s.h : Int)) :: (.int .i64 0) :: c23 :: c24 :: c25 :: c26 :: c27 :: c28 :: c29 :: c30 :: c31 :: c32 :: c33 :: c34 :: c35 :: c36 :: c37 :: c38 :: c39 :: c40 :: c41 :: c42 :: c43 :: c44 :: c45 :: c46 :: c47 :: c48 :: c49 :: c50 :: c51 :: c52 :: c53 :: c54 :: c55 :: c56 :: c57 :: c58 :: c59 :: c60 :: c61 :: c62 :: c63 :: c64 :: c65 :: c66 :: c67 :: c68 :: c69 :: c70 :: c71 :: c72 :: c73 :: c74 :: c75 :: c76 :: c77 :: c78 :: c79 :: c80 :: c81 :: c82 :: c83 :: c84 :: c85 :: c86 :: c87 :: c88 :: c89 :: c90 :: c91 :: c92 :: c93 :: c94 :: c95 :: c96 :: c97 :: c98 :: c99 :: c100 :: c101 :: c102 :: c103 :: c104 :: c105 :: c106 :: c107 :: c108 :: c109 :: c110 :: c111 :: c112 :: c113 :: c114 :: c115 :: c116 :: c117 :: c118 :: c119 :: c120 :: c121 :: c122 :: c123 :: c124 :: c125 :: c126 :: c127 :: c128 :: c129 :: c130 :: c131 :: c132 :: c133 :: c134 :: c135 :: c136 :: c137 :: c138 :: c139 :: c140 :: c141 :: c142 :: c143 :: c144 :: c145 :: c146 :: c147 :: c148 :: c149 :: c150 :: c151 :: c152 :: c153 :: c154 :: c155 :: c156 :: c157 :: c158 :: c159 :: c160 :: c161 :: c162 :: c163 :: c164 :: c165 :: c166 :: c167 :: c168 :: c169 :: c170 :: c171 :: c172 :: c173 :: c174 :: c175 :: c176 :: c177 :: c178 :: c179 :: c180 :: c181 :: c182 :: c183 :: c184 :: c185 :: c186 :: c187 :: c188 :: c189 :: c190 :: c191 :: c192 :: c193 :: c194 :: c195 :: c196 :: c197 :: c198 :: c199 :: c200 :: c201 :: c202 :: c203 :: c204 :: c205 :: c206 :: c207 :: c208 :: c209 :: c210 :: c211 :: c212 :: c213 :: c214 :: c215 :: c216 :: c217 :: c218 :: c219 :: c220 :: c221 :: c222 :: c223 :: c224 :: c225 :: c226 :: c227 :: c228 :: c229 :: c230 :: c231 :: c232 :: c233 :: c234 :: c235 :: c236 :: c237 :: c238 :: c239 :: c240 :: c241 :: c242 :: c243 :: c244 :: c245 :: c246 :: c247 :: c248 :: c249 :: c250 :: c251 :: c252 :: c253 :: c254 :: c255 :: c256 :: c257 :: c258 :: c259 :: c260 :: c261 :: c262 :: c263 :: c264 :: c265 :: c266 :: c267 :: c268 :: c269 :: c270 :: c271 :: c272 :: c273 :: c274 :: c275 :: c276 :: c277 :: c278 :: c279 :: c280 :: c281 :: c282 :: c283 :: []), []⟩ wo := by
  conv => arg 2; whnf
  have HK := Lib.hid hK
  clear hK
  go_wp2_with fail
  go_loopw [14, 15, 16, 17, 18, 19, 20, 21, 22] (fun va vb vc vd ve vf vg vh i wx => ∃ (t : Nat) (z : St), t ≤ 64 ∧ i = .int .i64 (t : Nat) ∧ Go.RowKit.Hid (z = run wl t s) ∧ va = .int .u32 (z.a : Nat) ∧ vb = .int .u32 (z.b : Nat) ∧ vc = .int .u32 (z.c : Nat) ∧ vd = .int .u32 (z.d : Nat) ∧ ve = .int .u32 (z.e : Nat) ∧ vf = .int .u32 (z.f : Nat) ∧ vg = .int .u32 (z.g : Nat) ∧ vh = .int .u32 (z.h : Nat) ∧ ∃ n, wx = wo.drewN n) (fun _ _ _ _ _ _ _ _ i _ => 64 - (intOf i).toNat)
  case atStart => exact ⟨0, s, by omega, rfl, Lib.hid rfl, rfl, rfl, rfl, rfl, rfl, rfl, rfl, rfl, 0, rfl⟩
  case round =>
    obtain ⟨t, z, ht, rfl, HZ, rfl, rfl, rfl, rfl, rfl, rfl, rfl, rfl, nw, rfl⟩ := hrel
    by_cases hlt : t < 64
    · as_aux_lemma =>
      clear HK
      have tt : decide ((t : Int) < 64) = true := by simp; omega
      have ti : (t : Int) < 64 := by omega
      have hok : z.Ok := by rw [HZ.out]; exact run_ok _ HS.out t
      have HZ' : Go.RowKit.Hid (Sh.step (K.getD t 0) (wl.getD t 0) z = run wl (t + 1) s) := Lib.hid (by rw [HZ.out]; rfl)
      have cK : (wo.drewN nw).cell? ⟨gk, t, none⟩ = some (.int .u32 ((K.getD t 0 : Nat) : Int)) := HKt.out t (by rw [length_K]; omega)
      have cW : (wo.drewN nw).cell? ⟨gw, t, none⟩ = some (.int .u32 ((wl.getD t 0 : Nat) : Int)) := HWt.out.cell t (by omega)
      have HVW : Go.RowKit.Hid (∃ n, wo.drewN nw = wo.drewN n) := Lib.hid ⟨nw, rfl⟩
      generalize wo.drewN nw = wy at *
      have hk := K_lt t
      have hv := HWW.out t
      obtain ⟨la, lb, lc, ld, le, lf, lg, lh⟩ := hok
      have CT : Go.RowKit.Hid (∀ (x n : Nat), x < 4294967296 → n < 32 → ∀ w', Calls Tryd.prog 38 #[.int .u32 (x : Int), .int .i64 (n : Int)] w' fun e w'' => e = .returned (.int .u32 ((rot x n : Nat) : Int)) ∧ w'' = w') := Lib.hid (fun x n h1 h2 w' => (turn_any x n h1 h2 w').mono fun e w'' h => ⟨h.1, h.2.symm⟩)
      have D1 : Go.RowKit.Hid (∀ w', Calls Tryd.prog 38 #[.int .u32 (z.e : Int), .int .i64 6] w' fun e w'' => e = .returned (.int .u32 ((rot z.e 6 : Nat) : Int)) ∧ w'' = w') := Lib.hid (CT.out z.e 6 le (by omega))
      have D2 : Go.RowKit.Hid (∀ w', Calls Tryd.prog 38 #[.int .u32 (z.e : Int), .int .i64 11] w' fun e w'' => e = .returned (.int .u32 ((rot z.e 11 : Nat) : Int)) ∧ w'' = w') := Lib.hid (CT.out z.e 11 le (by omega))
      have D3 : Go.RowKit.Hid (∀ w', Calls Tryd.prog 38 #[.int .u32 (z.e : Int), .int .i64 25] w' fun e w'' => e = .returned (.int .u32 ((rot z.e 25 : Nat) : Int)) ∧ w'' = w') := Lib.hid (CT.out z.e 25 le (by omega))
      have E1 : Go.RowKit.Hid (∀ w', Calls Tryd.prog 38 #[.int .u32 (z.a : Int), .int .i64 2] w' fun e w'' => e = .returned (.int .u32 ((rot z.a 2 : Nat) : Int)) ∧ w' = w'') := Lib.hid (fun w' => turn_any z.a 2 la (by omega) w')
      have E2 : Go.RowKit.Hid (∀ w', Calls Tryd.prog 38 #[.int .u32 (z.a : Int), .int .i64 13] w' fun e w'' => e = .returned (.int .u32 ((rot z.a 13 : Nat) : Int)) ∧ w' = w'') := Lib.hid (fun w' => turn_any z.a 13 la (by omega) w')
      have E3 : Go.RowKit.Hid (∀ w', Calls Tryd.prog 38 #[.int .u32 (z.a : Int), .int .i64 22] w' fun e w'' => e = .returned (.int .u32 ((rot z.a 22 : Nat) : Int)) ∧ w' = w'') := Lib.hid (fun w' => turn_any z.a 22 la (by omega) w')
      have p1 := u32_xor_nat _ _ (rot_lt z.e 6 le (by omega)) (rot_lt z.e 11 le (by omega))
      have p2 : bits .xor .u32 ((rot z.e 6 ^^^ rot z.e 11 : Nat) : Int) ((rot z.e 25 : Nat) : Int) = ((tri z.e 6 11 25 : Nat) : Int) := u32_xor_nat _ _ (xor32 (rot_lt z.e 6 le (by omega)) (rot_lt z.e 11 le (by omega))) (rot_lt z.e 25 le (by omega))
      have p3 := u32_xor_nat _ _ (rot_lt z.a 2 la (by omega)) (rot_lt z.a 13 la (by omega))
      have p4 : bits .xor .u32 ((rot z.a 2 ^^^ rot z.a 13 : Nat) : Int) ((rot z.a 22 : Nat) : Int) = ((tri z.a 2 13 22 : Nat) : Int) := u32_xor_nat _ _ (xor32 (rot_lt z.a 2 la (by omega)) (rot_lt z.a 13 la (by omega))) (rot_lt z.a 22 la (by omega))
      have q1 := u32_and_nat z.e z.f le lf
      have q2 : IntKind.u32.wrap (4294967295 - (z.e : Int)) = ((4294967295 - z.e : Nat) : Int) := by rw [IntKind.wrap_u32]; omega
      have q3 := u32_and_nat (4294967295 - z.e) z.g (by omega) lg
      have q4 : bits .xor .u32 ((z.e &&& z.f : Nat) : Int) (((4294967295 - z.e) &&& z.g : Nat) : Int) = ((ch z.e z.f z.g : Nat) : Int) := by rw [u32_xor_nat _ _ (and32 le) (and32 (by omega)), ch_xor _ _ _ le]
      have r1 := u32_and_nat z.a z.b la lb
      have r2 := u32_and_nat z.a z.c la lc
      have r3 := u32_xor_nat _ _ (and32 (b := z.b) la) (and32 (b := z.c) la)
      have r4 := u32_and_nat z.b z.c lb lc
      have r5 : bits .xor .u32 (((z.a &&& z.b) ^^^ (z.a &&& z.c) : Nat) : Int) ((z.b &&& z.c : Nat) : Int) = ((maj z.a z.b z.c : Nat) : Int) := by rw [u32_xor_nat _ _ (xor32 (and32 la) (and32 la)) (and32 lb), maj_xor]
      generalize hx1 : (z.h + tri z.e 6 11 25) % 4294967296 = x1
      generalize hx2 : (x1 + ch z.e z.f z.g) % 4294967296 = x2
      generalize hx3 : (x2 + K.getD t 0) % 4294967296 = x3
      generalize hx4 : (x3 + wl.getD t 0) % 4294967296 = x4
      generalize hx5 : (tri z.a 2 13 22 + maj z.a z.b z.c) % 4294967296 = x5
      generalize hx6 : (z.d + x4) % 4294967296 = x6
      generalize hx7 : (x4 + x5) % 4294967296 = x7
      have hst : Sh.step (K.getD t 0) (wl.getD t 0) z = ⟨x7, z.a, z.b, z.c, x6, z.e, z.f, z.g⟩ := by
        subst hx1 hx2 hx3 hx4 hx5 hx6 hx7; rfl
      rw [hst] at HZ'
      have y1 := add_u32 z.h (tri z.e 6 11 25)
      have y2 := add_u32 x1 (ch z.e z.f z.g)
      have y3 := add_u32 x2 (K.getD t 0)
      have y4 := add_u32 x3 (wl.getD t 0)
      have y5 := add_u32 (tri z.a 2 13 22) (maj z.a z.b z.c)
      have y6 := add_u32 z.d x4
      have y7 := add_u32 x4 x5
      rw [hx1] at y1
      rw [hx2] at y2
      rw [hx3] at y3
      rw [hx4] at y4
      rw [hx5] at y5
      rw [hx6] at y6
      rw [hx7] at y7
      clear hst hx1 hx2 hx3 hx4 hx5 hx6 hx7 CT HKt HWt HWW HS HZ
      generalize tri z.e 6 11 25 = u1 at *
      generalize tri z.a 2 13 22 = u2 at *
      generalize ch z.e z.f z.g = u3 at *
      generalize maj z.a z.b z.c = u4 at *
      generalize K.getD t 0 = kt at *
      generalize wl.getD t 0 = wt at *
      generalize (4294967295 - z.e) = ne at *
      generalize z.e &&& z.f = u5 at *
      generalize ne &&& z.g = u6 at *
      generalize (z.a &&& z.b) ^^^ (z.a &&& z.c) = u9 at *
      generalize z.a &&& z.b = u7 at *
      generalize z.a &&& z.c = u8 at *
      generalize z.b &&& z.c = u10 at *
      generalize rot z.e 6 ^^^ rot z.e 11 = v1 at *
      generalize rot z.a 2 ^^^ rot z.a 13 = v2 at *
      generalize rot z.e 6 = v3 at *
      generalize rot z.e 11 = v4 at *
      generalize rot z.e 25 = v5 at *
      generalize rot z.a 2 = v6 at *
      generalize rot z.a 13 = v7 at *
      generalize rot z.a 22 = v8 at *
      go_wp2_with fail
      go_quiet (first | (go_at_call 38; first | (with_reducible exact Calls.quiet_of_same (D1.out _)) | (with_reducible exact Calls.quiet_of_same (D2.out _)) | (with_reducible exact Calls.quiet_of_same (D3.out _))))
      have HV : Go.RowKit.Hid (∃ n, wy.drewN nq = wo.drewN n) := Lib.hid (by obtain ⟨n, hn⟩ := HVW.out; exact ⟨n + nq, by rw [hn, World.drewN_drewN]⟩)
      clear cK cW D1 D2 D3
      generalize wy.drewN nq = w5 at *
      go_wp2_with fail
      refine (E1.out _).mono ?_
      rintro e w6 ⟨rfl, rfl⟩
      go_wp2_with fail
      refine (E2.out _).mono ?_
      rintro e w6 ⟨rfl, rfl⟩
      go_wp2_with fail
      refine (E3.out _).mono ?_
      rintro e w6 ⟨rfl, rfl⟩
      go_wp2
      go_roundw
      case rel => exact ⟨t + 1, ⟨x7, z.a, z.b, z.c, x6, z.e, z.f, z.g⟩, by omega, by go_num, HZ', rfl, rfl, rfl, rfl, rfl, rfl, rfl, rfl, HV.out⟩
      case measure => simp [intOf]; omega
    · have et : (t : Int) = 64 := by omega
      rw [et]
      obtain rfl : t = 64 := by omega
      clear et
      have hz := HZ.out
      subst hz
      have t1 : decide ((64 : Int) < 64) = false := by decide
      generalize run wl 64 s = z at *
      go_wp2
      exact HK.out _ _ _ _ _ _ _ _ _ _ _ _ _ _ _ _ _ _ _ _ _ _ _ _ _ _ _ _ _ _ _ _ _ _ _ _ _ _ _ _ _ _ _ _ _ _ _ _ _ _ _ _ _ _ _ _ _ _ _ _ _ _ _ _ _ _ _ _ _ ⟨nw, rfl⟩
end Go.Proofs.YtihpjkidoingfaaDoor
namespace Go.Proofs.YtihpjkidoingfaaDoor
open Go.RowKit Arr Sh

/-- What stands behind a piece. -/
def Pieced (l : List Nat) (wo : World) (v : Value) (wx : World) : Prop := ∃ g c, v = .slice (some ⟨g, 0, none⟩) 8 c ∧ Holds wx g .u32 l ∧ wo.heap.size ≤ g ∧ Below wo.heap.size wo wx

set_option maxHeartbeats 4000000 in
set_option maxRecDepth 1000000 in
theorem with_body (K0 : Act → World → Prop) (Q' : Exit → Act → World → Prop) (hQp : ∀ c (d : Tmp) v a w, Q' (.panic c) (a.put (some d) v) w → Q' (.panic c) a w) (P TT : List Nat) (T p gk ck gm cm gs cs : Nat) (s : St) (wo : World) (PB : Go.RowKit.Hid (∀ x, x ∈ P → x < 256)) (P16 : Go.RowKit.Hid (∀ t, t < 16 → w16 P t = num ((TT.drop (p + 4 * t)).take 4))) (HTL : Go.RowKit.Hid (TT.length = T)) (hTc : T ≤ cm) (hT2 : T ≤ 4072) (hp64 : p + 64 ≤ T)
    (HT : Go.RowKit.Hid (Bys wo wo.heap.size (some ⟨gm, 0, none⟩) TT)) (HS : Go.RowKit.Hid s.Ok) (HKt : Go.RowKit.Hid (Tab32 wo gk K)) (HSt : Go.RowKit.Hid (Holds wo gs .u32 s.l))
    (c1 c2 c3 c4 c5 c6 c10 c11 c12 c13 c14 c15 c16 c17 c18 c19 c20 c21 c22 c23 c24 c25 c26 c27 c28 c29 c30 c31 c32 c33 c34 c35 c36 c37 c38 c39 c40 c41 c42 c43 c44 c45 c46 c47 c48 c49 c50 c51 c52 c53 c54 c55 c56 c57 c58 c59 c60 c61 c62 c63 c64 c65 c66 c67 c68 c69 c70 c71 c72 c73 c74 c75 c76 c77 c78 c79 c80 c81 c82 c83 c84 c85 c86 c87 c88 c89 c90 c91 c92 c93 c94 c95 c96 c97 c98 c99 c100 c101 c102 c103 c104 c105 c106 c107 c108 c109 c110 c111 c112 c113 c114 c115 c116 c117 c118 c119 c120 c121 c122 c123 c124 c125 c126 c127 c128 c129 c130 c131 c132 c133 c134 c135 c136 c137 c138 c139 c140 c141 c142 c143 c144 c145 c146 c147 c148 c149 c150 c151 c152 c153 c154 c155 c156 c157 c158 c159 c160 c161 c162 c163 c164 c165 c166 c167 c168 c169 c170 c171 c172 c173 c174 c175 c176 c177 c178 c179 c180 c181 c182 c183 c184 c185 c186 c187 c188 c189 c190 c191 c192 c193 c194 c195 c196 c197 c198 c199 c200 c201 c202 c203 c204 c205 c206 c207 c208 c209 c210 c211 c212 c213 c214 c215 c216 c217 c218 c219 c220 c221 c222 c223 c224 c225 c226 c227 c228 c229 c230 c231 c232 c233 c234 c235 c236 c237 c238 c239 c240 c241 c242 c243 c244 c245 c246 c247 c248 c249 c250 c251 c252 c253 c254 c255 c256 c257 c258 c259 c260 c261 c262 c263 c264 c265 c266 c267 c268 c269 c270 c271 c272 c273 c274 c275 c276 c277 c278 c279 c280 c281 c282 c283 : Value)
    (hK : ∀ (u8 u10 u11 u12 u13 u14 u15 u16 u17 u18 u19 u20 u21 u22 u23 u24 u44 u45 u46 u47 u48 u49 u50 u51 u52 u53 u54 u55 u56 u57 u58 u59 u60 u61 u62 u63 u64 u65 u66 u67 u68 u69 u70 u71 u72 u73 u74 u75 u76 u77 u78 u79 u80 u81 u82 u83 u84 u85 u86 u87 u88 u89 u90 u91 u92 u93 u94 u95 u96 u97 u98 u99 u100 u101 u102 u103 u104 u105 u106 u107 u108 u109 u110 u111 u112 u113 u114 u115 u116 u117 u118 u119 u120 u121 u122 u123 u124 u125 u126 u127 u128 u129 u130 u131 u132 u133 u134 u135 u136 u137 u138 u139 u140 u141 u142 u143 u144 u145 u146 u147 u148 u149 u150 u151 u152 u153 u154 u155 u156 u157 u158 u159 u160 u161 u162 u163 u164 u165 u166 u167 u168 u169 u170 u171 u172 u173 u174 u175 u176 u177 u178 u179 u180 u181 u182 u183 u184 u185 u186 u187 u188 u189 u190 u191 u192 u193 u194 u195 u196 u197 u198 u199 u200 u201 u202 u203 u204 u205 u206 u207 u208 u209 u210 u211 u212 u213 u214 u215 u216 u217 u218 u219 u220 u221 u222 u223 u224 u225 u226 u227 u228 u229 u230 u231 u232 u233 u234 u235 u236 u237 : Value) (wx : World), Pieced (comp P s).l wo u8 wx → K0 ⟨List.toArray ((.slice (some ⟨gk, 0, none⟩) 64 ck) :: c1 :: c2 :: c3 :: c4 :: c5 :: c6 :: (.slice (some ⟨gm, 0, none⟩) T cm) :: u8 :: (.int .i64 (p : Int)) :: u10 :: u11 :: u12 :: u13 :: u14 :: u15 :: u16 :: u17 :: u18 :: u19 :: u20 :: u21 :: u22 :: u23 :: u24 :: c25 :: c26 :: c27 :: c28 :: c29 :: c30 :: c31 :: c32 :: c33 :: c34 :: c35 :: c36 :: c37 :: c38 :: c39 :: c40 :: c41 :: c42 :: c43 :: u44 :: u45 :: u46 :: u47 :: u48 :: u49 :: u50 :: u51 :: u52 :: u53 :: u54 :: u55 :: u56 :: u57 :: u58 :: u59 :: u60 :: u61 :: u62 :: u63 :: u64 :: u65 :: u66 :: u67 :: u68 :: u69 :: u70 :: u71 :: u72 :: u73 :: u74 :: u75 :: u76 :: u77 :: u78 :: u79 :: u80 :: u81 :: u82 :: u83 :: u84 :: u85 :: u86 :: u87 :: u88 :: u89 :: u90 :: u91 :: u92 :: u93 :: u94 :: u95 :: u96 :: u97 :: u98 :: u99 :: u100 :: u101 :: u102 :: u103 :: u104 :: u105 :: u106 :: u107 :: u108 :: u109 :: u110 :: u111 :: u112 :: u113 :: u114 :: u115 :: u116 :: u117 :: u118 :: u119 :: u120 :: u121 :: u122 :: u123 :: u124 :: u125 :: u126 :: u127 :: u128 :: u129 :: u130 :: u131 :: u132 :: u133 :: u134 :: u135 :: u136 :: u137 :: u138 :: u139 :: u140 :: u141 :: u142 :: u143 :: u144 :: u145 :: u146 :: u147 :: u148 :: u149 :: u150 :: u151 :: u152 :: u153 :: u154 :: u155 :: u156 :: u157 :: u158 :: u159 :: u160 :: u161 :: u162 :: u163 :: u164 :: u165 :: u166 :: u167 :: u168 :: u169 :: u170 :: u171 :: u172 :: u173 :: u174 :: u175 :: u176 :: u177 :: u178 :: u179 :: u180 :: u181 :: u182 :: u183 :: u184 :: u185 :: u186 :: u187 :: u188 :: u189 :: u190 :: u191 :: u192 :: u193 :: u194 :: u195 :: u196 :: u197 :: u198 :: u199 :: u200 :: u201 :: u202 :: u203 :: u204 :: u205 :: u206 :: u207 :: u208 :: u209 :: u210 :: u211 :: u212 :: u213 :: u214 :: u215 :: u216 :: u217 :: u218 :: u219 :: u220 :: u221 :: u222 :: u223 :: u224 :: u225 :: u226 :: u227 :: u228 :: u229 :: u230 :: u231 :: u232 :: u233 :: u234 :: u235 :: u236 :: u237 :: c238 :: c239 :: c240 :: c241 :: c242 :: c243 :: c244 :: c245 :: c246 :: c247 :: c248 :: c249 :: c250 :: c251 :: c252 :: c253 :: c254 :: c255 :: c256 :: c257 :: c258 :: c259 :: c260 :: c261 :: c262 :: c263 :: c264 :: c265 :: c266 :: c267 :: c268 :: c269 :: c270 :: c271 :: c272 :: c273 :: c274 :: c275 :: c276 :: c277 :: c278 :: c279 :: c280 :: c281 :: c282 :: c283 :: []), []⟩ wx) :
    Code.wp Tryd.prog (wblk 1) (Exit.then K0 Q') ⟨List.toArray ((.slice (some ⟨gk, 0, none⟩) 64 ck) :: c1 :: c2 :: c3 :: c4 :: c5 :: c6 :: (.slice (some ⟨gm, 0, none⟩) T cm) :: (.slice (some ⟨gs, 0, none⟩) 8 cs) :: (.int .i64 (p : Int)) :: c10 :: c11 :: c12 :: c13 :: c14 :: c15 :: c16 :: c17 :: c18 :: c19 :: c20 :: c21 :: c22 :: c23 :: c24 :: c25 :: c26 :: c27 :: c28 :: c29 :: c30 :: c31 :: c32 :: c33 :: c34 :: c35 :: c36 :: c37 :: c38 :: c39 :: c40 :: c41 :: c42 :: c43 :: c44 :: c45 :: c46 :: c47 :: c48 :: c49 :: c50 :: c51 :: c52 :: c53 :: c54 :: c55 :: c56 :: c57 :: c58 :: c59 :: c60 :: c61 :: c62 :: c63 :: c64 :: c65 :: c66 :: c67 :: c68 :: c69 :: c70 :: c71 :: c72 :: c73 :: c74 :: c75 :: c76 :: c77 :: c78 :: c79 :: c80 :: c81 :: c82 :: c83 :: c84 :: c85 :: c86 :: c87 :: c88 :: c89 :: c90 :: c91 :: c92 :: c93 :: c94 :: c95 :: c96 :: c97 :: c98 :: c99 :: c100 :: c101 :: c102 :: c103 :: c104 :: c105 :: c106 :: c107 :: c108 :: c109 :: c110 :: c111 :: c112 :: c113 :: c114 :: c115 :: c116 :: c117 :: c118 :: c119 :: c120 :: c121 :: c122 :: c123 :: c124 :: c125 :: c126 :: c127 :: c128 :: c129 :: c130 :: c131 :: c132 :: c133 :: c134 :: c135 :: c136 :: c137 :: c138 :: c139 :: c140 :: c141 :: c142 :: c143 :: c144 :: c145 :: c146 :: c147 :: c148 :: c149 :: c150 :: c151 :: c152 :: c153 :: c154 :: c155 :: c156 :: c157 :: c158 :: c159 :: c160 :: c161 :: c162 :: c163 :: c164 :: c165 :: c166 :: c167 :: c168 :: c169 :: c170 :: c171 :: c172 :: c173 :: c174 :: c175 :: c176 :: c177 :: c178 :: c179 :: c180 :: c181 :: c182 :: c183 :: c184 :: c185 :: c186 :: c187 :: c188 :: c189 :: c190 :: c191 :: c192 :: c193 :: c194 :: c195 :: c196 :: c197 :: c198 :: c199 :: c200 :: c201 :: c202 :: c203 :: c204 :: c205 :: c206 :: c207 :: c208 :: c209 :: c210 :: c211 :: c212 :: c213 :: c214 :: c215 :: c216 :: c217 :: c218 :: c219 :: c220 :: c221 :: c222 :: c223 :: c224 :: c225 :: c226 :: c227 :: c228 :: c229 :: c230 :: c231 :: c232 :: c233 :: c234 :: c235 :: c236 :: c237 :: c238 :: c239 :: c240 :: c241 :: c242 :: c243 :: c244 :: c245 :: c246 :: c247 :: c248 :: c249 :: c250 :: c251 :: c252 :: c253 :: c254 :: c255 :: c256 :: c257 :: c258 :: c259 :: c260 :: c261 :: c262 :: c263 :: c264 :: c265 :: c266 :: c267 :: c268 :: c269 :: c270 :: c271 :: c272 :: c273 :: c274 :: c275 :: c276 :: c277 :: c278 :: c279 :: c280 :: c281 :: c282 :: c283 :: []), []⟩ wo := by
  conv => arg 2; whnf
  have HK := Lib.hid hK
  clear hK
  have hkw : gk < wo.heap.size := HKt.out.lt (by rw [length_K]; omega)
  have hsw : gs < wo.heap.size := HSt.out.lt (by rw [length_l]; omega)
  have HWW := Lib.hid (ws_ws P PB.out)
  have lw := length_ws P
  have HC : Go.RowKit.Hid (comp P s = plus s (run (ws P) 64 s)) := Lib.hid rfl
  go_upto_block 2 with fail
  refine with_loop2 _ _ ?hq P TT T p gm cm wo PB P16 HTL hTc hT2 hp64 HT _ _ _ _ _ _ _ _ _ _ _ _ _ _ _ _ _ _ _ _ _ _ _ _ _ _ _ _ _ _ _ _ _ _ _ _ _ _ _ _ _ _ _ _ _ _ _ _ _ _ _ _ _ _ _ _ _ _ _ _ _ _ _ _ _ _ _ _ _ _ _ _ _ _ _ _ _ _ _ _ _ _ _ _ _ _ _ _ _ _ _ _ _ _ _ _ _ _ _ _ _ _ _ _ _ _ _ _ _ _ _ _ _ _ _ _ _ _ _ _ _ _ _ _ _ _ _ _ _ _ _ _ _ _ _ _ _ _ _ _ _ _ _ _ _ _ _ _ _ _ _ _ _ _ _ _ _ _ _ _ _ _ _ _ _ _ _ _ _ _ _ _ _ _ _ _ _ _ _ _ _ _ _ _ _ _ _ _ _ _ _ _ _ _ _ _ _ _ _ _ _ _ _ _ _ _ _ _ _ _ _ _ _ _ _ _ _ _ _ _ _ _ _ _ _ _ _ _ _ _ _ _ _ _ _ _ _ _ _ _ _ _ _ _ _ _ _ _ _ _ _ _ _ _ _ _ _ _ _ _ _ _ _ _ _ _ _ _ _ _ _ _ _ _ _ _ _ _ _ _ ?_
  case hq => exact fun _ _ _ _ _ h => hQp _ _ _ _ _ h
  intro u10 u11 u12 u13 u44 u45 u46 u47 u48 u49 u50 u51 u52 u53 u54 u55 u56 u57 u58 u59 u60 u61 u62 u63 u64 u65 u66 u67 u68 u69 u70 u71 u72 u73 u74 u75 u76 u77 u78 u79 u80 u81 u82 u83 u84 u85 u86 u87 u88 u89 u90 u91 u92 u93 u94 u95 u96 u97 u98 u99 u100 u101 u102 u103 u104 u105 u106 u107 wx hW
  obtain ⟨gw, cw, rfl, hgw, hHw, hBw⟩ : ∃ gw cw, u10 = .slice (some ⟨gw, 0, none⟩) 64 cw ∧ wo.heap.size ≤ gw ∧ Holds wx gw .u32 (ws P) ∧ Below wo.heap.size wo wx := by
    obtain ⟨gw, cw, h1, h2, h3, h4⟩ := hW
    exact ⟨gw, cw, h1, h3, h2, h4⟩
  have HHw := Lib.hid hHw
  have HBw := Lib.hid hBw
  have HK2 := Lib.hid (HKt.out.below hBw hkw)
  have HS2 := Lib.hid (HSt.out.below hBw hsw)
  have d0 : wx.cell? ⟨gs, 0, none⟩ = some (.int .u32 (s.a : Int)) := HS2.out.cell 0 (by rw [length_l]; omega)
  have d1 : wx.cell? ⟨gs, 1, none⟩ = some (.int .u32 (s.b : Int)) := HS2.out.cell 1 (by rw [length_l]; omega)
  have d2 : wx.cell? ⟨gs, 2, none⟩ = some (.int .u32 (s.c : Int)) := HS2.out.cell 2 (by rw [length_l]; omega)
  have d3 : wx.cell? ⟨gs, 3, none⟩ = some (.int .u32 (s.d : Int)) := HS2.out.cell 3 (by rw [length_l]; omega)
  have d4 : wx.cell? ⟨gs, 4, none⟩ = some (.int .u32 (s.e : Int)) := HS2.out.cell 4 (by rw [length_l]; omega)
  have d5 : wx.cell? ⟨gs, 5, none⟩ = some (.int .u32 (s.f : Int)) := HS2.out.cell 5 (by rw [length_l]; omega)
  have d6 : wx.cell? ⟨gs, 6, none⟩ = some (.int .u32 (s.g : Int)) := HS2.out.cell 6 (by rw [length_l]; omega)
  have d7 : wx.cell? ⟨gs, 7, none⟩ = some (.int .u32 (s.h : Int)) := HS2.out.cell 7 (by rw [length_l]; omega)
  clear hW hHw hBw HKt HSt PB P16 HTL HT
  generalize ws P = wl at *
  go_upto_block 4 with fail
  clear d0 d1 d2 d3 d4 d5 d6 d7
  refine with_loop3 _ _ s wl gk ck gw cw wx HS HWW lw HK2 HHw _ _ _ _ _ _ _ _ _ _ _ _ _ _ _ _ _ _ _ _ _ _ _ _ _ _ _ _ _ _ _ _ _ _ _ _ _ _ _ _ _ _ _ _ _ _ _ _ _ _ _ _ _ _ _ _ _ _ _ _ _ _ _ _ _ _ _ _ _ _ _ _ _ _ _ _ _ _ _ _ _ _ _ _ _ _ _ _ _ _ _ _ _ _ _ _ _ _ _ _ _ _ _ _ _ _ _ _ _ _ _ _ _ _ _ _ _ _ _ _ _ _ _ _ _ _ _ _ _ _ _ _ _ _ _ _ _ _ _ _ _ _ _ _ _ _ _ _ _ _ _ _ _ _ _ _ _ _ _ _ _ _ _ _ _ _ _ _ _ _ _ _ _ _ _ _ _ _ _ _ _ _ _ _ _ _ _ _ _ _ _ _ _ _ _ _ _ _ _ _ _ _ _ _ _ _ _ _ _ _ _ _ _ _ _ _ _ _ _ _ _ _ _ _ _ _ _ _ _ _ _ _ _ _ _ _ _ _ _ _ _ _ _ _ _ _ _ _ _ _ _ _ _ _ _ _ _ _ _ _ _ _ _ _ _ _ _ _ _ _ _ _ _ ?_
  intro v22 v23 v24 v132 v133 v134 v135 v136 v137 v138 v139 v140 v141 v142 v143 v144 v145 v146 v147 v148 v149 v150 v151 v152 v153 v154 v155 v156 v157 v158 v159 v160 v161 v162 v163 v164 v165 v166 v167 v168 v169 v170 v171 v172 v173 v174 v175 v176 v177 v178 v179 v180 v181 v182 v183 v184 v185 v186 v187 v188 v189 v190 v191 v192 v193 v194 v195 v196 wy hy
  have HBy : Go.RowKit.Hid (Below wo.heap.size wo wy) := Lib.hid (by obtain ⟨n, rfl⟩ := hy; exact below_drewN HBw.out n)
  have HSy : Holds wy gs .u32 s.l := by obtain ⟨n, rfl⟩ := hy; exact HS2.out
  have d0 : wy.cell? ⟨gs, 0, none⟩ = some (.int .u32 (s.a : Int)) := HSy.cell 0 (by rw [length_l]; omega)
  have d1 : wy.cell? ⟨gs, 1, none⟩ = some (.int .u32 (s.b : Int)) := HSy.cell 1 (by rw [length_l]; omega)
  have d2 : wy.cell? ⟨gs, 2, none⟩ = some (.int .u32 (s.c : Int)) := HSy.cell 2 (by rw [length_l]; omega)
  have d3 : wy.cell? ⟨gs, 3, none⟩ = some (.int .u32 (s.d : Int)) := HSy.cell 3 (by rw [length_l]; omega)
  have d4 : wy.cell? ⟨gs, 4, none⟩ = some (.int .u32 (s.e : Int)) := HSy.cell 4 (by rw [length_l]; omega)
  have d5 : wy.cell? ⟨gs, 5, none⟩ = some (.int .u32 (s.f : Int)) := HSy.cell 5 (by rw [length_l]; omega)
  have d6 : wy.cell? ⟨gs, 6, none⟩ = some (.int .u32 (s.g : Int)) := HSy.cell 6 (by rw [length_l]; omega)
  have d7 : wy.cell? ⟨gs, 7, none⟩ = some (.int .u32 (s.h : Int)) := HSy.cell 7 (by rw [length_l]; omega)
  have HE : Go.RowKit.Hid (∀ x0 x1 x2 x3 x4 x5 x6 x7, (s.a + (run wl 64 s).a) % 4294967296 = x0 → (s.b + (run wl 64 s).b) % 4294967296 = x1 → (s.c + (run wl 64 s).c) % 4294967296 = x2 → (s.d + (run wl 64 s).d) % 4294967296 = x3 → (s.e + (run wl 64 s).e) % 4294967296 = x4 → (s.f + (run wl 64 s).f) % 4294967296 = x5 → (s.g + (run wl 64 s).g) % 4294967296 = x6 → (s.h + (run wl 64 s).h) % 4294967296 = x7 → [x0, x1, x2, x3, x4, x5, x6, x7] = (comp P s).l) := Lib.hid (by
    rintro _ _ _ _ _ _ _ _ rfl rfl rfl rfl rfl rfl rfl rfl
    rw [HC.out]; rfl)
  clear hy HS2 HHw HBw HK2 HSy HC HS HWW
  generalize run wl 64 s = z at *
  have y0 := add_u32 s.a z.a
  have y1 := add_u32 s.b z.b
  have y2 := add_u32 s.c z.c
  have y3 := add_u32 s.d z.d
  have y4 := add_u32 s.e z.e
  have y5 := add_u32 s.f z.f
  have y6 := add_u32 s.g z.g
  have y7 := add_u32 s.h z.h
  generalize (s.a + z.a) % 4294967296 = x0 at *
  generalize (s.b + z.b) % 4294967296 = x1 at *
  generalize (s.c + z.c) % 4294967296 = x2 at *
  generalize (s.d + z.d) % 4294967296 = x3 at *
  generalize (s.e + z.e) % 4294967296 = x4 at *
  generalize (s.f + z.f) % 4294967296 = x5 at *
  generalize (s.g + z.g) % 4294967296 = x6 at *
  generalize (s.h + z.h) % 4294967296 = x7 at *
  have HL := Lib.hid (HE.out x0 x1 x2 x3 x4 x5 x6 x7 rfl rfl rfl rfl rfl rfl rfl rfl)
  clear HE
  go_wp2_with fail
  refine region_quiet_tail 40 (by kernel_rfl) (by kernel_rfl) ?_
  simp only [List.take_succ_cons, List.take_zero, List.drop_succ_cons, List.drop_zero]
  repeat (go_big_quiet_step (fail))
  refine wpQuiet_nil ?_
  intro wd hwd
  have G2 : Below wo.heap.size wo wd := by obtain ⟨n, rfl⟩ := hwd; exact below_drewN HBy.out n
  have GN := Lib.hid (Holds.new wd 60 .u32 [x0, x1, x2, x3, x4, x5, x6, x7])
  have GB := Lib.hid (G2.alloc G2.size (.cells (na .u32 [x0, x1, x2, x3, x4, x5, x6, x7]) 60))
  have gsz := G2.size
  clear hwd G2 d0 d1 d2 d3 d4 d5 d6 d7 y0 y1 y2 y3 y4 y5 y6 y7
  go_wp2
  refine HK.out _ _ _ _ _ _ _ _ _ _ _ _ _ _ _ _ _ _ _ _ _ _ _ _ _ _ _ _ _ _ _ _ _ _ _ _ _ _ _ _ _ _ _ _ _ _ _ _ _ _ _ _ _ _ _ _ _ _ _ _ _ _ _ _ _ _ _ _ _ _ _ _ _ _ _ _ _ _ _ _ _ _ _ _ _ _ _ _ _ _ _ _ _ _ _ _ _ _ _ _ _ _ _ _ _ _ _ _ _ _ _ _ _ _ _ _ _ _ _ _ _ _ _ _ _ _ _ _ _ _ _ _ _ _ _ _ _ _ _ _ _ _ _ _ _ _ _ _ _ _ _ _ _ _ _ _ _ _ _ _ _ _ _ _ _ _ _ _ _ _ _ _ _ _ _ _ _ _ _ _ _ _ _ _ _ _ _ _ _ _ _ _ _ _ _ _ _ _ _ _ _ _ _ _ _ _ _ _ _ _ _ ?_
  refine ⟨wd.heap.size, 8, rfl, ?_, gsz, GB.out⟩
  rw [← HL.out]
  exact GN.out
end Go.Proofs.YtihpjkidoingfaaDoor
namespace Go.Proofs.YtihpjkidoingfaaDoor
open Go.RowKit Arr Sh

theorem bytes4 (x : Nat) (hx : x < 4294967296) : bytesOf x 4 = [x / 16777216, x / 65536 % 256, x / 256 % 256, x % 256] := by
  simp only [bytesOf]
  rw [show (256 : Nat) ^ 3 = 16777216 by decide, show (256 : Nat) ^ 2 = 65536 by decide, show (256 : Nat) ^ 1 = 256 by decide, show (256 : Nat) ^ 0 = 1 by decide, Nat.div_one, Nat.mod_eq_of_lt (show x / 16777216 < 256 by omega)]
theorem set4_spl (l : List Nat) (a b0 b1 b2 b3 : Nat) (h : a + 4 ≤ l.length) : (((l.set a b0).set (a + 1) b1).set (a + 2) b2).set (a + 3) b3 = spl l a [b0, b1, b2, b3] := by
  apply Arr.list_eq (n := l.length) (by simp) (length_spl l a _ (by simpa using h))
  intro i hi
  rw [spl_get l a _ (by simpa using h)]
  simp only [List.getD_eq_getElem?_getD, List.getElem?_set, List.length_set]
  by_cases h3 : a + 3 = i
  · subst h3; simp [hi]
  by_cases h2 : a + 2 = i
  · subst h2; simp [hi]
  by_cases h1 : a + 1 = i
  · subst h1; simp [hi]
  by_cases h0 : a = i
  · subst h0; simp [hi]
  · rw [if_neg h3, if_neg h2, if_neg h1, if_neg h0, if_neg (by simp; omega)]

set_option maxHeartbeats 4000000 in
set_option maxRecDepth 1000000 in
theorem with_loop4 (K0 : Act → World → Prop) (Q' : Exit → Act → World → Prop) (l : List Nat) (gs cs go : Nat) (wo : World) (HW : Go.RowKit.Hid (Ws l)) (ll : l.length = 8) (hne : gs ≠ go) (HSt : Go.RowKit.Hid (Holds wo gs .u32 l)) (HOt : Go.RowKit.Hid (Holds wo go .u8 (zs 32)))
    (c0 c1 c2 c3 c4 c5 c6 c7 c9 c10 c11 c12 c13 c14 c15 c16 c17 c18 c19 c20 c21 c22 c23 c24 c27 c28 c29 c30 c31 c32 c33 c34 c35 c36 c37 c38 c39 c40 c41 c42 c43 c44 c45 c46 c47 c48 c49 c50 c51 c52 c53 c54 c55 c56 c57 c58 c59 c60 c61 c62 c63 c64 c65 c66 c67 c68 c69 c70 c71 c72 c73 c74 c75 c76 c77 c78 c79 c80 c81 c82 c83 c84 c85 c86 c87 c88 c89 c90 c91 c92 c93 c94 c95 c96 c97 c98 c99 c100 c101 c102 c103 c104 c105 c106 c107 c108 c109 c110 c111 c112 c113 c114 c115 c116 c117 c118 c119 c120 c121 c122 c123 c124 c125 c126 c127 c128 c129 c130 c131 c132 c133 c134 c135 c136 c137 c138 c139 c140 c141 c142 c143 c144 c145 c146 c147 c148 c149 c150 c151 c152 c153 c154 c155 c156 c157 c158 c159 c160 c161 c162 c163 c164 c165 c166 c167 c168 c169 c170 c171 c172 c173 c174 c175 c176 c177 c178 c179 c180 c181 c182 c183 c184 c185 c186 c187 c188 c189 c190 c191 c192 c193 c194 c195 c196 c197 c198 c199 c200 c201 c202 c203 c204 c205 c206 c207 c208 c209 c210 c211 c212 c213 c214 c215 c216 c217 c218 c219 c220 c221 c222 c223 c224 c225 c226 c227 c228 c229 c230 c231 c232 c233 c234 c235 c236 c237 c238 c239 c240 c241 c242 c243 c244 c245 c246 c247 c248 c249 c250 c251 c252 c253 c254 c255 c256 c257 c258 c259 c260 c261 c262 c263 c264 c265 c266 c267 c268 c269 c270 c271 c272 c273 c274 c275 c276 c277 c278 c279 c280 c281 c282 c283 : Value)
    (hK : ∀ (u26 u238 u239 u240 u241 u242 u243 u244 u245 u246 u247 u248 u249 u250 u251 u252 u253 u254 u255 u256 u257 u258 u259 u260 u261 u262 u263 u264 u265 u266 u267 u268 u269 u270 u271 u272 u273 u274 u275 u276 u277 u278 u279 u280 u281 u282 : Value) (wx : World), Holds wx go .u8 (lay l 8) → Only go wo wx → K0 ⟨List.toArray (c0 :: c1 :: c2 :: c3 :: c4 :: c5 :: c6 :: c7 :: (.slice (some ⟨gs, 0, none⟩) 8 cs) :: c9 :: c10 :: c11 :: c12 :: c13 :: c14 :: c15 :: c16 :: c17 :: c18 :: c19 :: c20 :: c21 :: c22 :: c23 :: c24 :: (.pointer (some ⟨go, 0, none⟩)) :: u26 :: c27 :: c28 :: c29 :: c30 :: c31 :: c32 :: c33 :: c34 :: c35 :: c36 :: c37 :: c38 :: c39 :: c40 :: c41 :: c42 :: c43 :: c44 :: c45 :: c46 :: c47 :: c48 :: c49 :: c50 :: c51 :: c52 :: c53 :: c54 :: c55 :: c56 :: c57 :: c58 :: c59 :: c60 :: c61 :: c62 :: c63 :: c64 :: c65 :: c66 :: c67 :: c68 :: c69 :: c70 :: c71 :: c72 :: c73 :: c74 :: c75 :: c76 :: c77 :: c78 :: c79 :: c80 :: c81 :: c82 :: c83 :: c84 :: c85 :: c86 :: c87 :: c88 :: c89 :: c90 :: c91 :: c92 :: c93 :: c94 :: c95 :: c96 :: c97 :: c98 :: c99 :: c100 :: c101 :: c102 :: c103 :: c104 :: c105 :: c106 :: c107 :: c108 :: c109 :: c110 :: c111 :: c112 :: c113 :: c114 :: c115 :: c116 :: c117 :: c118 :: c119 :: c120 :: c121 :: c122 :: c123 :: c124 :: c125 :: c126 :: c127 :: c128 :: c129 :: c130 :: c131 :: c132 :: c133 :: c134 :: c135 :: c136 :: c137 :: c138 :: c139 :: c140 :: c141 :: c142 :: c143 :: c144 :: c145 :: c146 :: c147 :: c148 :: c149 :: c150 :: c151 :: c152 :: c153 :: c154 :: c155 :: c156 :: c157 :: c158 :: c159 :: c160 :: c161 :: c162 :: c163 :: c164 :: c165 :: c166 :: c167 :: c168 :: c169 :: c170 :: c171 :: c172 :: c173 :: c174 :: c175 :: c176 :: c177 :: c178 :: c179 :: c180 :: c181 :: c182 :: c183 :: c184 :: c185 :: c186 :: c187 :: c188 :: c189 :: c190 :: c191 :: c192 :: c193 :: c194 :: c195 :: c196 :: c197 :: c198 :: c199 :: c200 :: c201 :: c202 :: c203 :: c204 :: c205 :: c206 :: c207 :: c208 :: c209 :: c210 :: c211 :: c212 :: c213 :: c214 :: c215 :: c216 :: c217 :: c218 :: c219 :: c220 :: c221 :: c222 :: c223 :: c224 :: c225 :: c226 :: c227 :: c228 :: c229 :: c230 :: c231 :: c232 :: c233 :: c234 :: c235 :: c236 :: c237 :: u238 :: u239 :: u240 :: u241 :: u242 :: u243 :: u244 :: u245 :: u246 :: u247 :: u248 :: u249 :: u250 :: u251 :: u252 :: u253 :: u254 :: u255 :: u256 :: u257 :: u258 :: u259 :: u260 :: u261 :: u262 :: u263 :: u264 :: u265 :: u266 :: u267 :: u268 :: u269 :: u270 :: u271 :: u272 :: u273 :: u274 :: u275 :: u276 :: u277 :: u278 :: u279 :: u280 :: u281 :: u282 :: c283 :: []), []⟩ wx) :
    Code.wp Tryd.prog (wblk 6) (Exit.then K0 Q') ⟨List.toArray (c0 :: c1 :: c2 :: c3 :: c4 :: c5 :: c6 :: c7 :: (.slice (some ⟨gs, 0, none⟩) 8 cs) :: c9 :: c10 :: c11 :: c12 :: c13 :: c14 :: c15 :: c16 :: c17 :: c18 :: c19 :: c20 :: c21 :: c22 :: c23 :: c24 :: (.pointer (some ⟨go, 0, none⟩)) :: (.int .i64 0) :: c27 :: c28 :: c29 :: c30 :: c31 :: c32 :: c33 :: c34 :: c35 :: c36 :: c37 :: c38 :: c39 :: c40 :: c41 :: c42 :: c43 :: c44 :: c45 :: c46 :: c47 :: c48 :: c49 :: c50 :: c51 :: c52 :: c53 :: c54 :: c55 :: c56 :: c57 :: c58 :: c59 :: c60 :: c61 :: c62 :: c63 :: c64 :: c65 :: c66 :: c67 :: c68 :: c69 :: c70 :: c71 :: c72 :: c73 :: c74 :: c75 :: c76 :: c77 :: c78 :: c79 :: c80 :: c81 :: c82 :: c83 :: c84 :: c85 :: c86 :: c87 :: c88 :: c89 :: c90 :: c91 :: c92 :: c93 :: c94 :: c95 :: c96 :: c97 :: c98 :: c99 :: c100 :: c101 :: c102 :: c103 :: c104 :: c105 :: c106 :: c107 :: c108 :: c109 :: c110 :: c111 :: c112 :: c113 :: c114 :: c115 :: c116 :: c117 :: c118 :: c119 :: c120 :: c121 :: c122 :: c123 :: c124 :: c125 :: c126 :: c127 :: c128 :: c129 :: c130 :: c131 :: c132 :: c133 :: c134 :: c135 :: c136 :: c137 :: c138 :: c139 :: c140 :: c141 :: c142 :: c143 :: c144 :: c145 :: c146 :: c147 :: c148 :: c149 :: c150 :: c151 :: c152 :: c153 :: c154 :: c155 :: c156 :: c157 :: c158 :: c159 :: c160 :: c161 :: c162 :: c163 :: c164 :: c165 :: c166 :: c167 :: c168 :: c169 :: c170 :: c171 :: c172 :: c173 :: c174 :: c175 :: c176 :: c177 :: c178 :: c179 :: c180 :: c181 :: c182 :: c183 :: c184 :: c185 :: c186 :: c187 :: c188 :: c189 :: c190 :: c191 :: c192 :: c193 :: c194 :: c195 :: c196 :: c197 :: c198 :: c199 :: c200 :: c201 :: c202 :: c203 :: c204 :: c205 :: c206 :: c207 :: c208 :: c209 :: c210 :: c211 :: c212 :: c213 :: c214 :: c215 :: c216 :: c217 :: c218 :: c219 :: c220 :: c221 :: c222 :: c223 :: c224 :: c225 :: c226 :: c227 :: c228 :: c229 :: c230 :: c231 :: c232 :: c233 :: c234 :: c235 :: c236 :: c237 :: c238 :: c239 :: c240 :: c241 :: c242 :: c243 :: c244 :: c245 :: c246 :: c247 :: c248 :: c249 :: c250 :: c251 :: c252 :: c253 :: c254 :: c255 :: c256 :: c257 :: c258 :: c259 :: c260 :: c261 :: c262 :: c263 :: c264 :: c265 :: c266 :: c267 :: c268 :: c269 :: c270 :: c271 :: c272 :: c273 :: c274 :: c275 :: c276 :: c277 :: c278 :: c279 :: c280 :: c281 :: c282 :: c283 :: []), []⟩ wo := by
  conv => arg 2; whnf
  have HK := Lib.hid hK
  clear hK
  have hsw : gs < wo.heap.size := HSt.out.lt (by omega)
  go_wp2_with fail
  go_loopw [26] (fun i wx => ∃ t : Nat, t ≤ 8 ∧ i = .int .i64 (t : Nat) ∧ Holds wx go .u8 (lay l t) ∧ Only go wo wx) (fun i _ => 8 - (intOf i).toNat)
  case atStart => exact ⟨0, by omega, rfl, HOt.out, Only.refl _ _⟩
  case round =>
    obtain ⟨t, ht, rfl, hH, hO⟩ := hrel
    have HH := Lib.hid hH
    have HO := Lib.hid hO
    clear hH hO
    by_cases hlt : t < 8
    · as_aux_lemma =>
      clear HK
      have tt : decide ((t : Int) < 8) = true := by simp; omega
      have ti : (t : Int) < 8 := by omega
      have hx := HW.out t
      have c1 := (HSt.out.below (Below.refl _ _) hsw).cell t (by omega)
      have c2 : wr.cell? ⟨gs, t, none⟩ = some (.int .u32 ((l.getD t 0 : Nat) : Int)) := (HO.out.cell (p := ⟨gs, t, none⟩) hsw hne).trans c1
      have HLY : Go.RowKit.Hid (lay l (t + 1) = spl (lay l t) (4 * t) (bytesOf (l.getD t 0) 4)) := Lib.hid rfl
      have LL := length_lay l t (by omega)
      clear c1
      generalize l.getD t 0 = x at *
      obtain ⟨a, ha⟩ : ∃ a, a = 4 * t := ⟨_, rfl⟩
      obtain ⟨a1, ha1⟩ : ∃ a1, a1 = a + 1 := ⟨_, rfl⟩
      obtain ⟨a2, ha2⟩ : ∃ a2, a2 = a + 2 := ⟨_, rfl⟩
      obtain ⟨a3, ha3⟩ : ∃ a3, a3 = a + 3 := ⟨_, rfl⟩
      have e0 : 4 * (t : Int) = (a : Int) := by omega
      have e1 : (a : Int) + 1 = (a1 : Int) := by omega
      have e2 : (a : Int) + 2 = (a2 : Int) := by omega
      have e3 : (a : Int) + 3 = (a3 : Int) := by omega
      have i0 : (a : Int) < 32 := by omega
      have i1 : (a1 : Int) < 32 := by omega
      have i2 : (a2 : Int) < 32 := by omega
      have i3 : (a3 : Int) < 32 := by omega
      obtain ⟨b0, hb0⟩ : ∃ b, b = x / 16777216 := ⟨_, rfl⟩
      obtain ⟨b1, hb1⟩ : ∃ b, b = x / 65536 % 256 := ⟨_, rfl⟩
      obtain ⟨b2, hb2⟩ : ∃ b, b = x / 256 % 256 := ⟨_, rfl⟩
      obtain ⟨b3, hb3⟩ : ∃ b, b = x % 256 := ⟨_, rfl⟩
      have hs := set4_spl (lay l t) a b0 b1 b2 b3 (by omega)
      rw [hb0, hb1, hb2, hb3, ← bytes4 x hx, ha, ← HLY.out, ← hb0, ← hb1, ← hb2, ← hb3, ← ha, ← ha1, ← ha2, ← ha3] at hs
      have HSS := Lib.hid hs
      generalize lay l t = L at *
      have f0 : ((x : Int) / 16777216) % 256 = (b0 : Int) := by omega
      have f0' : (x : Int) / 16777216 = (b0 : Int) := by omega
      have f1 : ((x : Int) / 65536) % 256 = (b1 : Int) := by omega
      have f2 : ((x : Int) / 256) % 256 = (b2 : Int) := by omega
      have f3 : (x : Int) % 256 = (b3 : Int) := by omega
      have cl0 := HH.out.cell a (by omega)
      have fr0 := HH.out.frozen a (by omega)
      have X0 := HH.out.set a b0 (by omega)
      have O0 := HO.out.setCell a (.int .u8 (b0 : Int))
      have cl1 := X0.cell a1 (by simp; omega)
      have fr1 := X0.frozen a1 (by simp; omega)
      have X1 := X0.set a1 b1 (by simp; omega)
      have O1 := O0.setCell a1 (.int .u8 (b1 : Int))
      have cl2 := X1.cell a2 (by simp; omega)
      have fr2 := X1.frozen a2 (by simp; omega)
      have X2 := X1.set a2 b2 (by simp; omega)
      have O2 := O1.setCell a2 (.int .u8 (b2 : Int))
      have cl3 := X2.cell a3 (by simp; omega)
      have fr3 := X2.frozen a3 (by simp; omega)
      have X3 := X2.set a3 b3 (by simp; omega)
      have O3 := O2.setCell a3 (.int .u8 (b3 : Int))
      rw [HSS.out] at X3
      have Y3 := Lib.hid X3
      have P3 := Lib.hid O3
      have g1 := (O0.cell (p := ⟨gs, t, none⟩) hsw hne).trans ((HO.out.cell (p := ⟨gs, t, none⟩) hsw hne).symm.trans c2)
      have g2 := (O1.cell (p := ⟨gs, t, none⟩) hsw hne).trans ((HO.out.cell (p := ⟨gs, t, none⟩) hsw hne).symm.trans c2)
      have g3 := (O2.cell (p := ⟨gs, t, none⟩) hsw hne).trans ((HO.out.cell (p := ⟨gs, t, none⟩) hsw hne).symm.trans c2)
      clear hs ha ha1 ha2 ha3 hb0 hb1 hb2 hb3 X0 X1 X2 X3 O0 O1 O2 O3 HSS HLY LL HH HO HSt HOt HW
      go_upto_region 45 with fail
      clear cl0 fr0 c2
      generalize wr.setCell ⟨go, a, none⟩ (.int .u8 (b0 : Int)) = wa at *
      go_upto_region 46 with fail
      clear cl1 fr1 g1
      generalize wa.setCell ⟨go, a1, none⟩ (.int .u8 (b1 : Int)) = wb at *
      go_upto_region 47 with fail
      clear cl2 fr2 g2
      generalize wb.setCell ⟨go, a2, none⟩ (.int .u8 (b2 : Int)) = wc at *
      go_wp2
      go_roundw
      case rel => exact ⟨t + 1, by omega, by go_num, Y3.out, P3.out⟩
      case measure => simp [intOf]; omega
    · obtain rfl : t = 8 := by omega
      have t1 : decide ((8 : Int) < 8) = false := by decide
      go_wp2
      exact HK.out _ _ _ _ _ _ _ _ _ _ _ _ _ _ _ _ _ _ _ _ _ _ _ _ _ _ _ _ _ _ _ _ _ _ _ _ _ _ _ _ _ _ _ _ _ _ _ HH.out HO.out
end Go.Proofs.YtihpjkidoingfaaDoor
namespace Go.Proofs.YtihpjkidoingfaaDoor
open Go.RowKit Arr Sh

/-- What holds between pieces: the result's variable, the text, the kinds, the eight numbers. -/
structure Wi (w : World) (gk gm gs : Nat) (m l : List Nat) (wr : World) : Prop where
  res : Holds wr w.heap.size .u8 (zs 32)
  text : Bys wr wr.heap.size (some ⟨gm, 0, none⟩) m
  kinds : Tab32 wr gk K
  nums : Holds wr gs .u32 l
  bel : Below w.heap.size w wr
theorem tot_byte {bs : List Nat} (h : ∀ x, x ∈ bs → x < 256) : ∀ x, x ∈ tot bs → x < 256 := fun x hx => by
  simp only [tot, List.mem_append] at hx
  rcases hx with hx | hx
  · exact h x hx
  · exact pad_byte _ x hx
theorem Tab32.nums {w : World} {b : Nat} {l : List Nat} (h : Tab32 w b l) (B : Nat) (hB : b < B) : Nums w B .u32 (some ⟨b, 0, none⟩) l := fun _ => ⟨b, 0, rfl, hB, fun i hi => by rw [Nat.zero_add]; exact h i hi⟩

set_option maxHeartbeats 4000000 in
set_option maxRecDepth 100000 in
theorem with_any (bs : List Nat) (A : Option Addr) (n c : Nat) (hl : bs.length = n) (hn : n ≤ 4000) (hAc : A = none → c = 0) (gk ck gb cb : Nat) (w : World) (hK : Tab32 w gk K) (hH : Tab32 w gb H0.l) (hb : Bys w w.heap.size A bs) :
    Calls Tryd.prog 32 #[.slice (some ⟨gk, 0, none⟩) 64 ck, .slice (some ⟨gb, 0, none⟩) 8 cb, .slice A n c] w (GivesB (Sh.sum bs) w) := by
  have sz1 : (w.alloc (.cells (na .u8 (zs 32)) 43)).heap.size = w.heap.size + 1 := World.size_alloc ..
  have b1 := below_alloc w (.cells (na .u8 (zs 32)) 43)
  have r1 := Holds.new w 43 .u8 (zs 32)
  have hkw := hK.lt (by rw [length_K]; omega)
  have hgw := hH.lt (by rw [length_l]; omega)
  obtain ⟨hl0, ehl⟩ : ∃ x, x = H0.l := ⟨_, rfl⟩
  rw [← ehl] at hH
  have lhl : hl0.length = 8 := by rw [ehl]; rfl
  have EH := Lib.hid ehl
  have SZ := Lib.hid sz1
  have B1 := Lib.hid b1
  have R1 := Lib.hid r1
  have HK := Lib.hid hK
  have HH := Lib.hid hH
  have HB := Lib.hid hb
  have HL := Lib.hid hl
  have LT := Lib.hid (length_tot bs)
  have C1 := Lib.hid (fun w' => rpad_any n (by omega) w')
  have HTT : Go.RowKit.Hid (bs ++ pad n = tot bs) := Lib.hid (by rw [← hl]; rfl)
  have LP := length_pad n
  have SG := size_ge n
  clear sz1 b1 r1 hK hH hb hl ehl
  go_enter Tryd.func32, Tryd.ntmps32
  go_upto_region 1 with (first | (with_reducible refine Arr.alloc (t := 43) _ z32 ?_) | fail)
  generalize w.alloc (.cells (na .u8 (zs 32)) 43) = w1 at *
  have hs1 := SZ.out
  go_upto_region 3 with (at_builtin; refine append_many rfl (.tmp 27) (.tmp 28) 22 rfl w1.heap.size 5 .u8 1 Tryd.underlying22 info_u8 (by omega) (.slice none 0 0) 0 [] rfl (World.ownsRow_nil w1 w1.heap.size 5 1) A n c bs rfl hAc HL.out w.heap.size (HB.out.below B1.out).nums (by omega) (Nat.le_refl _) ?_; intro v2 w2 hown2 hbel2)
  rw [Nat.zero_add, List.nil_append] at hown2
  have O2 := Lib.hid hown2
  have B2 := Lib.hid hbel2
  have hs2 := hbel2.size
  clear hown2 hbel2
  go_wp2_with fail
  refine (C1.out _).mono ?_
  rintro e w3 ⟨A3, c3, rfl, hb3, hB3⟩
  have O3 := Lib.hid (owns_below O2.out hB3)
  have B3 := Lib.hid (B2.out.trans (hB3.mono hs2))
  have N3 : Go.RowKit.Hid (A3 = none → c3 = 0) := Lib.hid (fun h => by
    obtain ⟨b, off, e, _⟩ := hb3.2 (by omega)
    rw [h] at e; cases e)
  have Y3 := Lib.hid hb3.nums
  have hs3 := B3.out.size
  rw [LP]
  clear hb3 hB3 O2 B2
  go_upto_region 4 with (at_builtin; refine append_many rfl (.tmp 30) (.tmp 33) 22 rfl w1.heap.size 5 .u8 1 Tryd.underlying22 info_u8 (by omega) v2 n bs rfl O3.out A3 (size n) c3 (pad n) rfl N3.out LP w3.heap.size Y3.out (by omega) hs3 ?_; intro v4 w4 hown4 hbel4)
  rw [HTT.out] at hown4
  have hTl : (tot bs).length = n + size n := by have := LT.out; rw [HL.out] at this; exact this
  have TB := Lib.hid (tot_byte HB.out.1)
  obtain ⟨T, eT⟩ : ∃ T, T = n + size n := ⟨_, rfl⟩
  have hT64 : T % 64 = 0 := by rw [eT]; exact size_mod n
  rw [← eT] at hown4 hTl
  have hT1 : 0 < T := by omega
  have hT2 : T ≤ 4072 := by omega
  obtain ⟨gm, cm, rfl, hgm, hTc, -, hH4⟩ := holds_of_owns hown4 hT1
  have M4 : Bys w4 w4.heap.size (some ⟨gm, 0, none⟩) (tot bs) := ⟨TB.out, fun _ => ⟨gm, 0, rfl, hH4.lt (by omega), fun i hi => by rw [Nat.zero_add]; exact hH4.cell i hi⟩⟩
  have B4 : Below w1.heap.size w1 w4 := B3.out.trans hbel4
  have HM4 := Lib.hid M4
  have HB4 := Lib.hid B4
  have hs4 := B4.size
  have HTL := Lib.hid hTl
  have HH4 := Lib.hid ((HH.out.below B1.out hgw).below B4 (by omega))
  clear hown4 hbel4 O3 B3 Y3 N3 C1 eT HTT LT LP SG M4 B4 hH4 HL hTl
  go_upto_region 6 with (at_builtin; refine append_many rfl (.tmp 35) (.tmp 36) 61 rfl w4.heap.size 60 .u32 4 Tryd.underlying61 info_w32 (by omega) (.slice none 0 0) 0 [] rfl (World.ownsRow_nil w4 w4.heap.size 60 1) (some ⟨gb, 0, none⟩) 8 cb hl0 rfl (fun h => by cases h) lhl w4.heap.size (HH4.out.nums _ (by omega)) (by omega) (Nat.le_refl _) ?_; intro v5 w5 hown5 hbel5)
  rw [Nat.zero_add, List.nil_append] at hown5
  obtain ⟨gs, cs, rfl, hgs, hcs, -, hH5⟩ := holds_of_owns hown5 (by omega)
  rw [EH.out] at hH5
  have W5 : Wi w gk gm gs (tot bs) (feed 0 H0 (tot bs)).l w5 := ⟨(R1.out.below HB4.out (by omega)).below hbel5 (by omega), (HM4.out.below hbel5).more hbel5.size, ((HK.out.below B1.out hkw).below HB4.out (by omega)).below hbel5 (by omega), hH5, B1.out.trans ((HB4.out.mono (by omega)).trans (hbel5.mono (by omega)))⟩
  have HW5 := Lib.hid W5
  clear hown5 hbel5 hH5 W5 HM4 HB4 HH4 HB HH HK R1 B1 SZ hs1 hs2 hs3 hs4
  generalize hTT : tot bs = TT at *
  have HTT := Lib.hid hTT
  clear hTT
  go_wp2_with fail
  go_loopw [8, 9] (fun v i wr => ∃ (q p gs cs : Nat), Go.RowKit.Hid (p = 64 * q) ∧ p ≤ T ∧ i = .int .i64 (p : Nat) ∧ v = .slice (some ⟨gs, 0, none⟩) 8 cs ∧ Wi w gk gm gs TT (feed q H0 TT).l wr) (fun _ i _ => T - (intOf i).toNat)
  case atStart => exact ⟨0, 0, gs, cs, Lib.hid rfl, by omega, rfl, rfl, HW5.out⟩
  case round =>
    clear HW5
    obtain ⟨q, p, gs, cs, HQ, hp, rfl, rfl, hw⟩ := hrel
    have HW := Lib.hid hw
    have hq := HQ.out
    by_cases hlt : p < T
    · as_aux_lemma =>
      have hp64 : p + 64 ≤ T := by omega
      have tt : decide ((p : Int) < (T : Int)) = true := by simp; omega
      have PB : Go.RowKit.Hid (∀ x, x ∈ (TT.drop p).take 64 → x < 256) := Lib.hid (fun x hx => TB.out x (List.mem_of_mem_drop (List.mem_of_mem_take hx)))
      have FS : Go.RowKit.Hid (comp ((TT.drop p).take 64) (feed q H0 TT) = feed (q + 1) H0 TT) := Lib.hid (by rw [feed_snoc, hq])
      have FOK := Lib.hid (feed_ok q TT H0_ok)
      have P16 : Go.RowKit.Hid (∀ t, t < 16 → w16 ((TT.drop p).take 64) t = num ((TT.drop (p + 4 * t)).take 4)) := Lib.hid (fun t ht => by
        rw [w16, List.drop_take, List.drop_drop, List.take_take, Nat.min_eq_left (by omega)])
      have HTx := Lib.hid hw.text
      have HKx := Lib.hid hw.kinds
      have HSx := Lib.hid hw.nums
      generalize (TT.drop p).take 64 = P at *
      have HQ2 : Go.RowKit.Hid (p + 64 = 64 * (q + 1)) := Lib.hid (by omega)
      clear hw hq
      generalize feed q H0 TT = st at *
      go_upto_block 1 with fail
      refine with_body _ _ ?hq P TT T p gk ck gm cm gs cs st wr PB P16 HTL hTc hT2 hp64 HTx FOK HKx HSx _ _ _ _ _ _ _ _ _ _ _ _ _ _ _ _ _ _ _ _ _ _ _ _ _ _ _ _ _ _ _ _ _ _ _ _ _ _ _ _ _ _ _ _ _ _ _ _ _ _ _ _ _ _ _ _ _ _ _ _ _ _ _ _ _ _ _ _ _ _ _ _ _ _ _ _ _ _ _ _ _ _ _ _ _ _ _ _ _ _ _ _ _ _ _ _ _ _ _ _ _ _ _ _ _ _ _ _ _ _ _ _ _ _ _ _ _ _ _ _ _ _ _ _ _ _ _ _ _ _ _ _ _ _ _ _ _ _ _ _ _ _ _ _ _ _ _ _ _ _ _ _ _ _ _ _ _ _ _ _ _ _ _ _ _ _ _ _ _ _ _ _ _ _ _ _ _ _ _ _ _ _ _ _ _ _ _ _ _ _ _ _ _ _ _ _ _ _ _ _ _ _ _ _ _ _ _ _ _ _ _ _ _ _ _ _ _ _ _ _ _ _ _ _ _ _ _ _ _ _ _ _ _ _ _ _ _ _ _ _ _ _ _ _ _ _ _ _ _ _ _ _ _ _ _ _ _ _ _ _ _ _ _ _ _ _ _ _ _ _ _ _ _ _ _ _ _ _ _ _ ?_
      case hq => exact fun _ _ _ _ _ h => h
      intro v8 v10 v11 v12 v13 v14 v15 v16 v17 v18 v19 v20 v21 v22 v23 v24 v44 v45 v46 v47 v48 v49 v50 v51 v52 v53 v54 v55 v56 v57 v58 v59 v60 v61 v62 v63 v64 v65 v66 v67 v68 v69 v70 v71 v72 v73 v74 v75 v76 v77 v78 v79 v80 v81 v82 v83 v84 v85 v86 v87 v88 v89 v90 v91 v92 v93 v94 v95 v96 v97 v98 v99 v100 v101 v102 v103 v104 v105 v106 v107 v108 v109 v110 v111 v112 v113 v114 v115 v116 v117 v118 v119 v120 v121 v122 v123 v124 v125 v126 v127 v128 v129 v130 v131 v132 v133 v134 v135 v136 v137 v138 v139 v140 v141 v142 v143 v144 v145 v146 v147 v148 v149 v150 v151 v152 v153 v154 v155 v156 v157 v158 v159 v160 v161 v162 v163 v164 v165 v166 v167 v168 v169 v170 v171 v172 v173 v174 v175 v176 v177 v178 v179 v180 v181 v182 v183 v184 v185 v186 v187 v188 v189 v190 v191 v192 v193 v194 v195 v196 v197 v198 v199 v200 v201 v202 v203 v204 v205 v206 v207 v208 v209 v210 v211 v212 v213 v214 v215 v216 v217 v218 v219 v220 v221 v222 v223 v224 v225 v226 v227 v228 v229 v230 v231 v232 v233 v234 v235 v236 v237 wx hP
      obtain ⟨gs', cs', rfl, hH', hgs', hB'⟩ := hP
      rw [FS.out] at hH'
      have hrw := HW.out.res.lt (by rw [length_zs]; omega)
      have hkw2 := HW.out.kinds.lt (by rw [length_K]; omega)
      have NW := Lib.hid (show Wi w gk gm gs' TT (feed (q + 1) H0 TT).l wx from ⟨HW.out.res.below hB' hrw, (HW.out.text.below hB').more hB'.size, HW.out.kinds.below hB' hkw2, hH', HW.out.bel.trans (hB'.mono HW.out.bel.size)⟩)
      clear hH' hB' HW HTx HKx HSx P16 PB FS FOK hkw2 hrw
      go_wp2
      go_roundw
      case rel => exact ⟨q + 1, p + 64, gs', cs', HQ2, hp64, by go_num, rfl, NW.out⟩
      case measure => simp [intOf]; omega
    · have tt : decide ((p : Int) < (T : Int)) = false := by simp; omega
      have hpT : p = T := by omega
      have hfin : feed q H0 TT = feed (TT.length / 64) H0 TT := by rw [HTL.out]; congr 1; omega
      have HFS : Go.RowKit.Hid (Sh.sum bs = out (feed q H0 TT)) := Lib.hid (by rw [hfin, ← HTT.out]; rfl)
      have FOK := Lib.hid (ws_l (feed_ok q TT H0_ok))
      have HLO := Lib.hid (lay_out (feed q H0 TT))
      have LO := length_out (feed q H0 TT)
      have LL := length_l (feed q H0 TT)
      rw [← HFS.out] at HLO LO
      generalize (feed q H0 TT).l = l at *
      generalize Sh.sum bs = sm at *
      have hgs := hw.nums.lt (by omega)
      have hrs := hw.res.lt (by rw [length_zs]; omega)
      have N1 := Lib.hid (Holds.new wr 43 .u8 (zs 32))
      have N2 := Lib.hid (hw.nums.alloc (.cells (na .u8 (zs 32)) 43))
      have N3 := Lib.hid (hw.res.alloc (.cells (na .u8 (zs 32)) 43))
      have N4 := Lib.hid (hw.bel.alloc hw.bel.size (.cells (na .u8 (zs 32)) 43))
      have N5 : (wr.alloc (.cells (na .u8 (zs 32)) 43)).heap.size = wr.heap.size + 1 := World.size_alloc ..
      have HN5 := Lib.hid N5
      clear hw hq hfin HW HFS N5 HTT HTL TB
      go_upto_block 6 with (first | (with_reducible refine Arr.alloc (t := 43) _ z32 ?_) | fail)
      generalize wr.alloc (.cells (na .u8 (zs 32)) 43) = wa at *
      refine with_loop4 _ _ l gs cs wr.heap.size wa FOK LL (by omega) N2 N1 _ _ _ _ _ _ _ _ _ _ _ _ _ _ _ _ _ _ _ _ _ _ _ _ _ _ _ _ _ _ _ _ _ _ _ _ _ _ _ _ _ _ _ _ _ _ _ _ _ _ _ _ _ _ _ _ _ _ _ _ _ _ _ _ _ _ _ _ _ _ _ _ _ _ _ _ _ _ _ _ _ _ _ _ _ _ _ _ _ _ _ _ _ _ _ _ _ _ _ _ _ _ _ _ _ _ _ _ _ _ _ _ _ _ _ _ _ _ _ _ _ _ _ _ _ _ _ _ _ _ _ _ _ _ _ _ _ _ _ _ _ _ _ _ _ _ _ _ _ _ _ _ _ _ _ _ _ _ _ _ _ _ _ _ _ _ _ _ _ _ _ _ _ _ _ _ _ _ _ _ _ _ _ _ _ _ _ _ _ _ _ _ _ _ _ _ _ _ _ _ _ _ _ _ _ _ _ _ _ _ _ _ _ _ _ _ _ _ _ _ _ _ _ _ _ _ _ _ _ _ _ _ _ _ _ _ _ _ _ _ _ _ _ _ _ _ _ _ _ _ _ _ _ _ _ _ _ _ _ _ _ _ _ _ _ _ _ _ _ _ _ _ _ _ _ _ _ _ _ _ _ ?_
      intro v26 v238 v239 v240 v241 v242 v243 v244 v245 v246 v247 v248 v249 v250 v251 v252 v253 v254 v255 v256 v257 v258 v259 v260 v261 v262 v263 v264 v265 v266 v267 v268 v269 v270 v271 v272 v273 v274 v275 v276 v277 v278 v279 v280 v281 v282 wx hH hO
      rw [HLO.out] at hH
      have hwb := N4.out.size
      have HX := Lib.hid hH
      have RX : Holds wx w.heap.size .u8 (zs 32) := HAt.only (Holds.at0 N3.out) hO (by have := HN5.out; omega) (by omega)
      have HRX := Lib.hid RX
      have BX : Below w.heap.size w wx := N4.out.trans (hO.below (by omega) hwb)
      have F1 := Lib.hid (RX.put sm (by rw [LO, length_zs]))
      have F2 := Lib.hid (below_setCells (b := w.heap.size) (Nat.le_refl _) (nv .u8 sm) 0 _ BX)
      clear hH hO RX BX N1 N2 N3 N4 HLO
      go_wp2_with (first | (with_reducible refine Arr.load o32 wr.heap.size sm LO HX.out rfl ?_) | (with_reducible refine Arr.store o32 w.heap.size (zs 32) sm (length_zs _) HRX.out LO rfl rfl ?_) | fail)
      exact bodyPost_ret (v := .agg (na .u8 sm)) (results_arr o32 rfl _ _ w.heap.size sm LO F1.out rfl) rfl ⟨rfl, F2.out⟩
end Go.Proofs.YtihpjkidoingfaaDoor
