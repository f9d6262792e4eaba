/-
  The reference's With: the words of a piece (its second loop). Conditions: the text lies in its row. (Written by tools/gen_with.py.)
-/
import Derived.Test.YtmookhbijmibiaaDoorShaRefFns
import Derived.Test.YtmookhbijmibiaaDoorOwnMany
import Derived.Test.YtmookhbijmibiaaDoorOwnArr
import Derived.Test.YtmookhbijmibiaaDoorCutBys
import Derived.Deep.CutBlock
namespace Go.Proofs.YtmookhbijmibiaaDoor
open Go.RowKit Arr Sh

/-- Block n of a code. -/
def blockOf (n : Nat) : Code → Option Code
  | .block k c => if k = n then some (.block k c) else blockOf n c
  | .seq a b => match blockOf n a with
    | some c => some c
    | none => blockOf n b
  | .loop c => blockOf n c
  | .scope c => blockOf n c
  | .cond _ a b => match blockOf n a with
    | some c => some c
    | none => blockOf n b
  | _ => none
noncomputable def wblk (n : Nat) : Code := (Tryd.f14.body.bind (blockOf n)).getD .skip

theorem info_w32 : (Tryd.prog.info? 38).map (fun i => (i.zero, i.size, i.bytes)) = some (some (.int .u32 0), 1, 4) := by kernel_rfl
/-- What stands when the words are made. -/
def Worded (P : List Nat) (wo : World) (v : Value) (wx : World) : Prop := ∃ gw cw, v = .slice (some ⟨gw, 0, none⟩) 64 cw ∧ Holds wx gw .u32 (ws P) ∧ wo.heap.size ≤ gw ∧ Below wo.heap.size wo wx

set_option maxHeartbeats 4000000 in
set_option maxRecDepth 1000000 in
theorem with_loop2 (K : Act → World → Prop) (Q' : Exit → Act → World → Prop) (hQp : ∀ c (d : Tmp) v a w, Q' (.panic c) (a.put (some d) v) w → Q' (.panic c) a w) (P TT : List Nat) (T p gm cm : Nat) (wo : World) (PB : Go.RowKit.Hid (∀ x, x ∈ P → x < 256)) (P16 : Go.RowKit.Hid (∀ t, t < 16 → w16 P t = num ((TT.drop (p + 4 * t)).take 4))) (HTL : Go.RowKit.Hid (TT.length = T)) (hTc : T ≤ cm) (hT2 : T ≤ 4072) (hp64 : p + 64 ≤ T) (HT : Go.RowKit.Hid (Bys wo wo.heap.size (some ⟨gm, 0, none⟩) TT))
    (c0 c1 c2 c3 c4 c5 c6 c8 c12 c13 c14 c15 c16 c17 c18 c19 c20 c21 c22 c23 c24 c25 c26 c27 c28 c29 c30 c31 c32 c33 c34 c35 c36 c37 c38 c39 c40 c41 c42 c43 c44 c45 c46 c47 c48 c49 c50 c51 c52 c53 c54 c55 c56 c57 c58 c59 c60 c61 c62 c63 c64 c65 c66 c67 c68 c69 c70 c71 c72 c73 c74 c75 c76 c77 c78 c79 c80 c81 c82 c83 c84 c85 c86 c87 c88 c89 c90 c91 c92 c93 c94 c95 c96 c97 c98 c99 c100 c101 c102 c103 c104 c105 c106 c107 c108 c109 c110 c111 c112 c113 c114 c115 c116 c117 c118 c119 c120 c121 c122 c123 c124 c125 c126 c127 c128 c129 c130 c131 c132 c133 c134 c135 c136 c137 c138 c139 c140 c141 c142 c143 c144 c145 c146 c147 c148 c149 c150 c151 c152 c153 c154 c155 c156 c157 c158 c159 c160 c161 c162 c163 c164 c165 c166 c167 c168 c169 c170 c171 c172 c173 c174 c175 c176 c177 c178 c179 c180 c181 c182 c183 c184 c185 c186 c187 c188 c189 c190 c191 c192 c193 c194 c195 c196 c197 c198 c199 c200 c201 c202 c203 c204 c205 c206 c207 c208 c209 c210 c211 c212 c213 c214 c215 c216 c217 c218 c219 c220 c221 c222 c223 c224 c225 c226 c227 c228 c229 c230 c231 c232 c233 c234 c235 c236 c237 c238 c239 c240 c241 c242 c243 c244 c245 c246 c247 c248 c249 c250 c251 c252 c253 c254 c255 c256 c257 c258 c259 c260 c261 c262 c263 c264 c265 c266 c267 c268 c269 c270 c271 c272 c273 c274 c275 c276 c277 c278 c279 c280 c281 c282 c283 : Value)
    (hK : ∀ (u10 u11 u12 u13 u44 u45 u46 u47 u48 u49 u50 u51 u52 u53 u54 u55 u56 u57 u58 u59 u60 u61 u62 u63 u64 u65 u66 u67 u68 u69 u70 u71 u72 u73 u74 u75 u76 u77 u78 u79 u80 u81 u82 u83 u84 u85 u86 u87 u88 u89 u90 u91 u92 u93 u94 u95 u96 u97 u98 u99 u100 u101 u102 u103 u104 u105 u106 u107 : Value) (wx : World), Worded P wo u10 wx → K ⟨List.toArray (c0 :: c1 :: c2 :: c3 :: c4 :: c5 :: c6 :: (.slice (some ⟨gm, 0, none⟩) T cm) :: c8 :: (.int .i64 (p : Int)) :: u10 :: u11 :: u12 :: u13 :: c14 :: c15 :: c16 :: c17 :: c18 :: c19 :: c20 :: c21 :: c22 :: c23 :: c24 :: c25 :: c26 :: c27 :: c28 :: c29 :: c30 :: c31 :: c32 :: c33 :: c34 :: c35 :: c36 :: c37 :: c38 :: c39 :: c40 :: c41 :: c42 :: c43 :: u44 :: u45 :: u46 :: u47 :: u48 :: u49 :: u50 :: u51 :: u52 :: u53 :: u54 :: u55 :: u56 :: u57 :: u58 :: u59 :: u60 :: u61 :: u62 :: u63 :: u64 :: u65 :: u66 :: u67 :: u68 :: u69 :: u70 :: u71 :: u72 :: u73 :: u74 :: u75 :: u76 :: u77 :: u78 :: u79 :: u80 :: u81 :: u82 :: u83 :: u84 :: u85 :: u86 :: u87 :: u88 :: u89 :: u90 :: u91 :: u92 :: u93 :: u94 :: u95 :: u96 :: u97 :: u98 :: u99 :: u100 :: u101 :: u102 :: u103 :: u104 :: u105 :: u106 :: u107 :: c108 :: c109 :: c110 :: c111 :: c112 :: c113 :: c114 :: c115 :: c116 :: c117 :: c118 :: c119 :: c120 :: c121 :: c122 :: c123 :: c124 :: c125 :: c126 :: c127 :: c128 :: c129 :: c130 :: c131 :: c132 :: c133 :: c134 :: c135 :: c136 :: c137 :: c138 :: c139 :: c140 :: c141 :: c142 :: c143 :: c144 :: c145 :: c146 :: c147 :: c148 :: c149 :: c150 :: c151 :: c152 :: c153 :: c154 :: c155 :: c156 :: c157 :: c158 :: c159 :: c160 :: c161 :: c162 :: c163 :: c164 :: c165 :: c166 :: c167 :: c168 :: c169 :: c170 :: c171 :: c172 :: c173 :: c174 :: c175 :: c176 :: c177 :: c178 :: c179 :: c180 :: c181 :: c182 :: c183 :: c184 :: c185 :: c186 :: c187 :: c188 :: c189 :: c190 :: c191 :: c192 :: c193 :: c194 :: c195 :: c196 :: c197 :: c198 :: c199 :: c200 :: c201 :: c202 :: c203 :: c204 :: c205 :: c206 :: c207 :: c208 :: c209 :: c210 :: c211 :: c212 :: c213 :: c214 :: c215 :: c216 :: c217 :: c218 :: c219 :: c220 :: c221 :: c222 :: c223 :: c224 :: c225 :: c226 :: c227 :: c228 :: c229 :: c230 :: c231 :: c232 :: c233 :: c234 :: c235 :: c236 :: c237 :: c238 :: c239 :: c240 :: c241 :: c242 :: c243 :: c244 :: c245 :: c246 :: c247 :: c248 :: c249 :: c250 :: c251 :: c252 :: c253 :: c254 :: c255 :: c256 :: c257 :: c258 :: c259 :: c260 :: c261 :: c262 :: c263 :: c264 :: c265 :: c266 :: c267 :: c268 :: c269 :: c270 :: c271 :: c272 :: c273 :: c274 :: c275 :: c276 :: c277 :: c278 :: c279 :: c280 :: c281 :: c282 :: c283 :: []), []⟩ wx) :
    Code.wp Tryd.prog (wblk 2) (Exit.then K Q') ⟨List.toArray (c0 :: c1 :: c2 :: c3 :: c4 :: c5 :: c6 :: (.slice (some ⟨gm, 0, none⟩) T cm) :: c8 :: (.int .i64 (p : Int)) :: (.slice none 0 0) :: (.int .i64 0) :: c12 :: c13 :: c14 :: c15 :: c16 :: c17 :: c18 :: c19 :: c20 :: c21 :: c22 :: c23 :: c24 :: c25 :: c26 :: c27 :: c28 :: c29 :: c30 :: c31 :: c32 :: c33 :: c34 :: c35 :: c36 :: c37 :: c38 :: c39 :: c40 :: c41 :: c42 :: c43 :: c44 :: c45 :: c46 :: c47 :: c48 :: c49 :: c50 :: c51 :: c52 :: c53 :: c54 :: c55 :: c56 :: c57 :: c58 :: c59 :: c60 :: c61 :: c62 :: c63 :: c64 :: c65 :: c66 :: c67 :: c68 :: c69 :: c70 :: c71 :: c72 :: c73 :: c74 :: c75 :: c76 :: c77 :: c78 :: c79 :: c80 :: c81 :: c82 :: c83 :: c84 :: c85 :: c86 :: c87 :: c88 :: c89 :: c90 :: c91 :: c92 :: c93 :: c94 :: c95 :: c96 :: c97 :: c98 :: c99 :: c100 :: c101 :: c102 :: c103 :: c104 :: c105 :: c106 :: c107 :: c108 :: c109 :: c110 :: c111 :: c112 :: c113 :: c114 :: c115 :: c116 :: c117 :: c118 :: c119 :: c120 :: c121 :: c122 :: c123 :: c124 :: c125 :: c126 :: c127 :: c128 :: c129 :: c130 :: c131 :: c132 :: c133 :: c134 :: c135 :: c136 :: c137 :: c138 :: c139 :: c140 :: c141 :: c142 :: c143 :: c144 :: c145 :: c146 :: c147 :: c148 :: c149 :: c150 :: c151 :: c152 :: c153 :: c154 :: c155 :: c156 :: c157 :: c158 :: c159 :: c160 :: c161 :: c162 :: c163 :: c164 :: c165 :: c166 :: c167 :: c168 :: c169 :: c170 :: c171 :: c172 :: c173 :: c174 :: c175 :: c176 :: c177 :: c178 :: c179 :: c180 :: c181 :: c182 :: c183 :: c184 :: c185 :: c186 :: c187 :: c188 :: c189 :: c190 :: c191 :: c192 :: c193 :: c194 :: c195 :: c196 :: c197 :: c198 :: c199 :: c200 :: c201 :: c202 :: c203 :: c204 :: c205 :: c206 :: c207 :: c208 :: c209 :: c210 :: c211 :: c212 :: c213 :: c214 :: c215 :: c216 :: c217 :: c218 :: c219 :: c220 :: c221 :: c222 :: c223 :: c224 :: c225 :: c226 :: c227 :: c228 :: c229 :: c230 :: c231 :: c232 :: c233 :: c234 :: c235 :: c236 :: c237 :: c238 :: c239 :: c240 :: c241 :: c242 :: c243 :: c244 :: c245 :: c246 :: c247 :: c248 :: c249 :: c250 :: c251 :: c252 :: c253 :: c254 :: c255 :: c256 :: c257 :: c258 :: c259 :: c260 :: c261 :: c262 :: c263 :: c264 :: c265 :: c266 :: c267 :: c268 :: c269 :: c270 :: c271 :: c272 :: c273 :: c274 :: c275 :: c276 :: c277 :: c278 :: c279 :: c280 :: c281 :: c282 :: c283 :: []), []⟩ wo := by
  conv => arg 2; whnf
  have HK := Lib.hid hK
  clear hK
  go_wp2_with fail
  go_loopw [10, 11] (fun v i wx => ∃ (t : Nat) (l : List Nat), t ≤ 64 ∧ i = .int .i64 (t : Nat) ∧ l.length = t ∧ Ws l ∧ (t ≤ 16 → l = firsts P t) ∧ (16 ≤ t → ext (64 - t) l = ws P) ∧ wx.ownsRow wo.heap.size 38 1 v t (vals .u32 l) ∧ Below wo.heap.size wo wx) (fun _ i _ => 64 - (intOf i).toNat)
  case atStart => exact ⟨0, [], by omega, rfl, rfl, fun i => by simp, fun _ => rfl, fun h => by omega, World.ownsRow_nil _ _ _ _, Below.refl _ _⟩
  case round =>
    obtain ⟨t, l, ht, rfl, hll, hlw, hl1, hl2, hown, hbel⟩ := hrel
    have HO := Lib.hid hown
    have HBl := Lib.hid hbel
    have HLW := Lib.hid hlw
    have HL1 := Lib.hid hl1
    have HL2 := Lib.hid hl2
    have HLL := Lib.hid hll
    have hsz := hbel.size
    clear hown hbel hlw hl1 hl2 hll
    by_cases h16 : t < 16
    · as_aux_lemma =>
      clear HK
      have t1 : decide ((t : Int) < 64) = true := by simp; omega
      have t2 : decide ((t : Int) < 16) = true := by simp; omega
      obtain ⟨u, hu⟩ : ∃ u, u = p + 4 * t := ⟨_, rfl⟩
      have e1 : (p : Int) + 4 * (t : Int) = (u : Int) := by omega
      obtain ⟨u4, hu4⟩ : ∃ u4, u4 = u + 4 := ⟨_, rfl⟩
      have e2 : (u : Int) + 4 = (u4 : Int) := by omega
      have r1 := run_cut_lh (some ⟨gm, 0, none⟩) T cm u u4 (by omega) (by omega)
      rw [show u4 - u = 4 by omega] at r1
      have hbb := (HT.out.below HBl.out)
      have hbc := bys_cut hbb cm (by rw [HTL.out]; exact hTc) u (u + 4) (by omega) (by rw [HTL.out]; omega)
      rw [show u + 4 - u = 4 by omega] at hbc
      have hlc : ((TT.drop u).take 4).length = 4 := by rw [List.length_take, List.length_drop, HTL.out]; omega
      have C1 := rget64_any (cutA (some ⟨gm, 0, none⟩) cm u) 4 (cm - u) ((TT.drop u).take 4) hlc (by omega) wr _ hbc
      have hw16 := P16.out t h16
      rw [← hu] at hw16
      have hlt16 := w16_lt P PB.out t
      rw [← hw16] at C1
      have HL1' : Go.RowKit.Hid (l ++ [w16 P t] = firsts P (t + 1)) := Lib.hid (by rw [firsts_snoc, HL1.out (by omega)])
      have C2 := Lib.hid C1
      have WS := Lib.hid (HLW.out.snoc hlt16)
      have LN : Go.RowKit.Hid ((l ++ [w16 P t]).length = t + 1) := Lib.hid (by rw [List.length_append, HLL.out]; rfl)
      have EX : Go.RowKit.Hid (t + 1 = 16 → ext (64 - (t + 1)) (firsts P (t + 1)) = ws P) := Lib.hid (fun h => by rw [h]; rfl)
      generalize w16 P t = x at *
      have wx1 : IntKind.u32.wrap (x : Int) = (x : Int) := by rw [IntKind.wrap_u32]; omega
      generalize cutA (some ⟨gm, 0, none⟩) cm u = cA at *
      clear hu hu4 hbb hbc hlc C1 hw16 HT P16 PB HTL HL1 HL2 HLW HLL
      go_wp2_with fail
      refine C2.out.mono ?_
      rintro e w' ⟨rfl, rfl⟩
      go_wp2_with (at_builtin; refine append_one rfl (.tmp 50) (.tmp 64) 39 rfl wo.heap.size 38 (.int .u32 0) 4 Tryd.underlying39 info_w32 rfl _ t _ (.int .u32 (x : Int)) rfl HO.out rfl rfl (by omega) (by omega) hsz ?_; intro v' w6 hown6 hbel6)
      rw [← vals_snoc] at hown6
      go_roundw
      case rel => exact ⟨t + 1, l ++ [x], by omega, by go_num, LN.out, WS.out, fun _ => HL1'.out, fun h => by rw [HL1'.out]; exact EX.out (by omega), hown6, HBl.out.trans hbel6⟩
      case measure => simp [intOf]; omega
    · by_cases h64 : t < 64
      · as_aux_lemma =>
        clear HK HT P16 PB HTL hTc hp64 hT2
        have t1 : decide ((t : Int) < 64) = true := by simp; omega
        have t2 : decide ((t : Int) < 16) = false := by simp; omega
        obtain ⟨gw, cw, rfl, hgw2, hcw, -, hHw⟩ := holds_of_owns HO.out (by omega)
        have hl2 := HL2.out (by omega)
        rw [show 64 - t = (64 - (t + 1)) + 1 by omega] at hl2
        have hl2' : ext (64 - (t + 1)) (l ++ [nxt l]) = ws P := hl2
        have HL2' := Lib.hid hl2'
        obtain ⟨m1, hm1⟩ : ∃ m, m = t - 16 := ⟨_, rfl⟩
        obtain ⟨m2, hm2⟩ : ∃ m, m = t - 15 := ⟨_, rfl⟩
        obtain ⟨m3, hm3⟩ : ∃ m, m = t - 7 := ⟨_, rfl⟩
        obtain ⟨m4, hm4⟩ : ∃ m, m = t - 2 := ⟨_, rfl⟩
        have e1 : (t : Int) - 16 = (m1 : Int) := by omega
        have e2 : (t : Int) - 15 = (m2 : Int) := by omega
        have e3 : (t : Int) - 7 = (m3 : Int) := by omega
        have e4 : (t : Int) - 2 = (m4 : Int) := by omega
        have b1 : (m1 : Int) < (t : Int) := by omega
        have b2 : (m2 : Int) < (t : Int) := by omega
        have b3 : (m3 : Int) < (t : Int) := by omega
        have b4 : (m4 : Int) < (t : Int) := by omega
        have w1 := wrap_nat m1 (by omega)
        have w2 := wrap_nat m2 (by omega)
        have w3 := wrap_nat m3 (by omega)
        have w4 := wrap_nat m4 (by omega)
        have hll := HLL.out
        have hn : nxt l = (((l.getD m1 0 + duo (l.getD m2 0) 7 18 3) % 4294967296 + l.getD m3 0) % 4294967296 + duo (l.getD m4 0) 17 19 10) % 4294967296 := by
          rw [nxt, hll, ← hm1, ← hm2, ← hm3, ← hm4]
        have g1 := hHw.cell m1 (by omega)
        have g2 := hHw.cell m2 (by omega)
        have g3 := hHw.cell m3 (by omega)
        have g4 := hHw.cell m4 (by omega)
        have k1 := HLW.out m1
        have k2 := HLW.out m2
        have k3 := HLW.out m3
        have k4 := HLW.out m4
        have WS := Lib.hid (HLW.out.snoc (nxt_lt l))
        have LN : Go.RowKit.Hid ((l ++ [nxt l]).length = t + 1) := Lib.hid (by rw [List.length_append, hll]; rfl)
        have hnl := nxt_lt l
        clear hl2 hl2' hHw hm1 hm2 hm3 hm4 hll HL1 HL2 HLW HLL
        generalize l.getD m1 0 = l1 at *
        generalize l.getD m2 0 = l2 at *
        generalize l.getD m3 0 = l3 at *
        generalize l.getD m4 0 = l4 at *
        have CT : Go.RowKit.Hid (∀ (x n : Nat), x < 4294967296 → n < 32 → ∀ w', Calls Tryd.prog 25 #[.int .u32 (x : Int), .int .i64 (n : Int)] w' fun e w'' => e = .returned (.int .u32 ((rot x n : Nat) : Int)) ∧ w'' = w') := Lib.hid (fun x n h1 h2 w' => (turn_any x n h1 h2 w').mono fun e w'' h => ⟨h.1, h.2.symm⟩)
        have CH : Go.RowKit.Hid (∀ (x n : Nat), x < 4294967296 → n < 32 → ∀ w', Calls Tryd.prog 26 #[.int .u32 (x : Int), .int .i64 (n : Int)] w' fun e w'' => e = .returned (.int .u32 ((x / 2 ^ n : Nat) : Int)) ∧ w'' = w') := Lib.hid (fun x n h1 h2 w' => (shift_any x n h1 h2 w').mono fun e w'' h => ⟨h.1, h.2.symm⟩)
        have D1 : Go.RowKit.Hid (∀ w', Calls Tryd.prog 25 #[.int .u32 (l2 : Int), .int .i64 7] w' fun e w'' => e = .returned (.int .u32 ((rot l2 7 : Nat) : Int)) ∧ w'' = w') := Lib.hid (CT.out l2 7 k2 (by omega))
        have D2 : Go.RowKit.Hid (∀ w', Calls Tryd.prog 25 #[.int .u32 (l2 : Int), .int .i64 18] w' fun e w'' => e = .returned (.int .u32 ((rot l2 18 : Nat) : Int)) ∧ w'' = w') := Lib.hid (CT.out l2 18 k2 (by omega))
        have D3 : Go.RowKit.Hid (∀ w', Calls Tryd.prog 26 #[.int .u32 (l2 : Int), .int .i64 3] w' fun e w'' => e = .returned (.int .u32 ((l2 / 2 ^ 3 : Nat) : Int)) ∧ w'' = w') := Lib.hid (CH.out l2 3 k2 (by omega))
        have D4 : Go.RowKit.Hid (∀ w', Calls Tryd.prog 25 #[.int .u32 (l4 : Int), .int .i64 17] w' fun e w'' => e = .returned (.int .u32 ((rot l4 17 : Nat) : Int)) ∧ w'' = w') := Lib.hid (CT.out l4 17 k4 (by omega))
        have D5 : Go.RowKit.Hid (∀ w', Calls Tryd.prog 25 #[.int .u32 (l4 : Int), .int .i64 19] w' fun e w'' => e = .returned (.int .u32 ((rot l4 19 : Nat) : Int)) ∧ w'' = w') := Lib.hid (CT.out l4 19 k4 (by omega))
        have D6 : Go.RowKit.Hid (∀ w', Calls Tryd.prog 26 #[.int .u32 (l4 : Int), .int .i64 10] w' fun e w'' => e = .returned (.int .u32 ((l4 / 2 ^ 10 : Nat) : Int)) ∧ w'' = w') := Lib.hid (CH.out l4 10 k4 (by omega))
        have q1 := u32_xor_nat _ _ (rot_lt l2 7 k2 (by omega)) (rot_lt l2 18 k2 (by omega))
        have q2 : bits .xor .u32 ((rot l2 7 ^^^ rot l2 18 : Nat) : Int) ((l2 / 2 ^ 3 : Nat) : Int) = ((duo l2 7 18 3 : Nat) : Int) := u32_xor_nat _ _ (xor32 (rot_lt l2 7 k2 (by omega)) (rot_lt l2 18 k2 (by omega))) (Nat.lt_of_le_of_lt (Nat.div_le_self _ _) k2)
        have q3 := u32_xor_nat _ _ (rot_lt l4 17 k4 (by omega)) (rot_lt l4 19 k4 (by omega))
        have q4 : bits .xor .u32 ((rot l4 17 ^^^ rot l4 19 : Nat) : Int) ((l4 / 2 ^ 10 : Nat) : Int) = ((duo l4 17 19 10 : Nat) : Int) := u32_xor_nat _ _ (xor32 (rot_lt l4 17 k4 (by omega)) (rot_lt l4 19 k4 (by omega))) (Nat.lt_of_le_of_lt (Nat.div_le_self _ _) k4)
        generalize duo l2 7 18 3 = d1 at *
        generalize duo l4 17 19 10 = d2 at *
        have y1 := add_u32 l1 d1
        have y2 := add_u32 ((l1 + d1) % 4294967296) l3
        have y3 := add_u32 (((l1 + d1) % 4294967296 + l3) % 4294967296) d2
        rw [← hn] at y3
        generalize ((l1 + d1) % 4294967296 + l3) % 4294967296 = x2 at *
        generalize (l1 + d1) % 4294967296 = x1 at *
        clear hn CT CH
        generalize nxt l = x3 at *
        generalize rot l2 7 ^^^ rot l2 18 = z1 at *
        generalize rot l4 17 ^^^ rot l4 19 = z2 at *
        generalize rot l2 7 = z3 at *
        generalize rot l2 18 = z4 at *
        generalize l2 / 2 ^ 3 = z5 at *
        generalize rot l4 17 = z6 at *
        generalize rot l4 19 = z7 at *
        generalize l4 / 2 ^ 10 = z8 at *
        go_upto_region 17 with fail
        refine region_move_quiet_tail 30 (by kernel_rfl) (by kernel_rfl) (.tmp 10) (.slice (some ⟨gw, 0, none⟩) t cw) rfl rfl rfl (fun _ _ _ _ h => hQp _ _ _ _ _ h) ?_
        simp only [List.take_succ_cons, List.take_zero, List.drop_succ_cons, List.drop_zero, Nat.add_one_sub_one, Act.put, List.setIfInBounds_toArray, List.set_cons_zero, List.set_cons_succ]
        repeat (go_big_quiet_step (first | (go_at_call 25; first | (with_reducible exact Calls.quiet_of_same (D1.out _)) | (with_reducible exact Calls.quiet_of_same (D2.out _)) | (with_reducible exact Calls.quiet_of_same (D4.out _)) | (with_reducible exact Calls.quiet_of_same (D5.out _))) | (go_at_call 26; first | (with_reducible exact Calls.quiet_of_same (D3.out _)) | (with_reducible exact Calls.quiet_of_same (D6.out _)))))
        refine wpQuiet_nil ?_
        intro wd hwd
        have G1 : wd.ownsRow wo.heap.size 38 1 (.slice (some ⟨gw, 0, none⟩) t cw) t (vals .u32 l) := by obtain ⟨n, rfl⟩ := hwd; exact HO.out
        have G2 : Below wo.heap.size wo wd := by obtain ⟨n, rfl⟩ := hwd; exact below_drewN HBl.out n
        have hszd := G2.size
        have GO := Lib.hid G1
        have GB := Lib.hid G2
        clear hwd G1 G2 g1 g2 g3 g4 y1 y2 y3 q1 q2 q3 q4 D1 D2 D3 D4 D5 D6 HO HBl
        go_wp2_with (at_builtin; refine append_one rfl (.tmp 76) (.tmp 106) 39 rfl wo.heap.size 38 (.int .u32 0) 4 Tryd.underlying39 info_w32 rfl _ t _ (.int .u32 (x3 : Int)) rfl GO.out rfl rfl (by omega) (by omega) hszd ?_; intro v' w6 hown6 hbel6)
        rw [← vals_snoc] at hown6
        go_roundw
        case rel => exact ⟨t + 1, l ++ [x3], by omega, by go_num, LN.out, WS.out, fun h => by omega, fun _ => HL2'.out, hown6, GB.out.trans hbel6⟩
        case measure => simp [intOf]; omega
      · obtain rfl : t = 64 := by omega
        have t1 : decide ((64 : Int) < 64) = false := by decide
        have e3 : l = ws P := HL2.out (by omega)
        rw [e3] at HO
        obtain ⟨gw, cw, rfl, hgw2, hcw, -, hHw⟩ := holds_of_owns HO.out (by omega)
        have HHw := Lib.hid hHw
        clear hHw e3 HT P16 PB HTL HO HL1 HL2 HLW HLL
        go_wp2
        refine HK.out _ _ _ _ _ _ _ _ _ _ _ _ _ _ _ _ _ _ _ _ _ _ _ _ _ _ _ _ _ _ _ _ _ _ _ _ _ _ _ _ _ _ _ _ _ _ _ _ _ _ _ _ _ _ _ _ _ _ _ _ _ _ _ _ _ _ _ _ _ ?_
        exact ⟨gw, cw, rfl, HHw.out, hgw2, HBl.out⟩
end Go.Proofs.YtmookhbijmibiaaDoor
