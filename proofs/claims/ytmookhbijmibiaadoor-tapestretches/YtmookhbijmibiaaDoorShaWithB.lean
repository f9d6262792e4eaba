/-
  The reference's With: one piece (the first loop's body). Conditions: the text, the kinds and the eight numbers lie in their rows. (Written by tools/gen_with.py.)
-/
import Derived.Test.YtmookhbijmibiaaDoorShaWith3
namespace Go.Proofs.YtmookhbijmibiaaDoor
open Go.RowKit Arr Sh

/-- What stands behind a piece. -/
def Pieced (l : List Nat) (wo : World) (v : Value) (wx : World) : Prop := ∃ g c, v = .slice (some ⟨g, 0, none⟩) 8 c ∧ Holds wx g .u32 l ∧ wo.heap.size ≤ g ∧ Below wo.heap.size wo wx

set_option maxHeartbeats 4000000 in
set_option maxRecDepth 1000000 in
theorem with_body (K0 : Act → World → Prop) (Q' : Exit → Act → World → Prop) (hQp : ∀ c (d : Tmp) v a w, Q' (.panic c) (a.put (some d) v) w → Q' (.panic c) a w) (P TT : List Nat) (T p gk ck gm cm gs cs : Nat) (s : St) (wo : World) (PB : Go.RowKit.Hid (∀ x, x ∈ P → x < 256)) (P16 : Go.RowKit.Hid (∀ t, t < 16 → w16 P t = num ((TT.drop (p + 4 * t)).take 4))) (HTL : Go.RowKit.Hid (TT.length = T)) (hTc : T ≤ cm) (hT2 : T ≤ 4072) (hp64 : p + 64 ≤ T)
    (HT : Go.RowKit.Hid (Bys wo wo.heap.size (some ⟨gm, 0, none⟩) TT)) (HS : Go.RowKit.Hid s.Ok) (HKt : Go.RowKit.Hid (Tab32 wo gk K)) (HSt : Go.RowKit.Hid (Holds wo gs .u32 s.l))
    (c1 c2 c3 c4 c5 c6 c10 c11 c12 c13 c14 c15 c16 c17 c18 c19 c20 c21 c22 c23 c24 c25 c26 c27 c28 c29 c30 c31 c32 c33 c34 c35 c36 c37 c38 c39 c40 c41 c42 c43 c44 c45 c46 c47 c48 c49 c50 c51 c52 c53 c54 c55 c56 c57 c58 c59 c60 c61 c62 c63 c64 c65 c66 c67 c68 c69 c70 c71 c72 c73 c74 c75 c76 c77 c78 c79 c80 c81 c82 c83 c84 c85 c86 c87 c88 c89 c90 c91 c92 c93 c94 c95 c96 c97 c98 c99 c100 c101 c102 c103 c104 c105 c106 c107 c108 c109 c110 c111 c112 c113 c114 c115 c116 c117 c118 c119 c120 c121 c122 c123 c124 c125 c126 c127 c128 c129 c130 c131 c132 c133 c134 c135 c136 c137 c138 c139 c140 c141 c142 c143 c144 c145 c146 c147 c148 c149 c150 c151 c152 c153 c154 c155 c156 c157 c158 c159 c160 c161 c162 c163 c164 c165 c166 c167 c168 c169 c170 c171 c172 c173 c174 c175 c176 c177 c178 c179 c180 c181 c182 c183 c184 c185 c186 c187 c188 c189 c190 c191 c192 c193 c194 c195 c196 c197 c198 c199 c200 c201 c202 c203 c204 c205 c206 c207 c208 c209 c210 c211 c212 c213 c214 c215 c216 c217 c218 c219 c220 c221 c222 c223 c224 c225 c226 c227 c228 c229 c230 c231 c232 c233 c234 c235 c236 c237 c238 c239 c240 c241 c242 c243 c244 c245 c246 c247 c248 c249 c250 c251 c252 c253 c254 c255 c256 c257 c258 c259 c260 c261 c262 c263 c264 c265 c266 c267 c268 c269 c270 c271 c272 c273 c274 c275 c276 c277 c278 c279 c280 c281 c282 c283 : Value)
    (hK : ∀ (u8 u10 u11 u12 u13 u14 u15 u16 u17 u18 u19 u20 u21 u22 u23 u24 u44 u45 u46 u47 u48 u49 u50 u51 u52 u53 u54 u55 u56 u57 u58 u59 u60 u61 u62 u63 u64 u65 u66 u67 u68 u69 u70 u71 u72 u73 u74 u75 u76 u77 u78 u79 u80 u81 u82 u83 u84 u85 u86 u87 u88 u89 u90 u91 u92 u93 u94 u95 u96 u97 u98 u99 u100 u101 u102 u103 u104 u105 u106 u107 u108 u109 u110 u111 u112 u113 u114 u115 u116 u117 u118 u119 u120 u121 u122 u123 u124 u125 u126 u127 u128 u129 u130 u131 u132 u133 u134 u135 u136 u137 u138 u139 u140 u141 u142 u143 u144 u145 u146 u147 u148 u149 u150 u151 u152 u153 u154 u155 u156 u157 u158 u159 u160 u161 u162 u163 u164 u165 u166 u167 u168 u169 u170 u171 u172 u173 u174 u175 u176 u177 u178 u179 u180 u181 u182 u183 u184 u185 u186 u187 u188 u189 u190 u191 u192 u193 u194 u195 u196 u197 u198 u199 u200 u201 u202 u203 u204 u205 u206 u207 u208 u209 u210 u211 u212 u213 u214 u215 u216 u217 u218 u219 u220 u221 u222 u223 u224 u225 u226 u227 u228 u229 u230 u231 u232 u233 u234 u235 u236 u237 : Value) (wx : World), Pieced (comp P s).l wo u8 wx → K0 ⟨List.toArray ((.slice (some ⟨gk, 0, none⟩) 64 ck) :: c1 :: c2 :: c3 :: c4 :: c5 :: c6 :: (.slice (some ⟨gm, 0, none⟩) T cm) :: u8 :: (.int .i64 (p : Int)) :: u10 :: u11 :: u12 :: u13 :: u14 :: u15 :: u16 :: u17 :: u18 :: u19 :: u20 :: u21 :: u22 :: u23 :: u24 :: c25 :: c26 :: c27 :: c28 :: c29 :: c30 :: c31 :: c32 :: c33 :: c34 :: c35 :: c36 :: c37 :: c38 :: c39 :: c40 :: c41 :: c42 :: c43 :: u44 :: u45 :: u46 :: u47 :: u48 :: u49 :: u50 :: u51 :: u52 :: u53 :: u54 :: u55 :: u56 :: u57 :: u58 :: u59 :: u60 :: u61 :: u62 :: u63 :: u64 :: u65 :: u66 :: u67 :: u68 :: u69 :: u70 :: u71 :: u72 :: u73 :: u74 :: u75 :: u76 :: u77 :: u78 :: u79 :: u80 :: u81 :: u82 :: u83 :: u84 :: u85 :: u86 :: u87 :: u88 :: u89 :: u90 :: u91 :: u92 :: u93 :: u94 :: u95 :: u96 :: u97 :: u98 :: u99 :: u100 :: u101 :: u102 :: u103 :: u104 :: u105 :: u106 :: u107 :: u108 :: u109 :: u110 :: u111 :: u112 :: u113 :: u114 :: u115 :: u116 :: u117 :: u118 :: u119 :: u120 :: u121 :: u122 :: u123 :: u124 :: u125 :: u126 :: u127 :: u128 :: u129 :: u130 :: u131 :: u132 :: u133 :: u134 :: u135 :: u136 :: u137 :: u138 :: u139 :: u140 :: u141 :: u142 :: u143 :: u144 :: u145 :: u146 :: u147 :: u148 :: u149 :: u150 :: u151 :: u152 :: u153 :: u154 :: u155 :: u156 :: u157 :: u158 :: u159 :: u160 :: u161 :: u162 :: u163 :: u164 :: u165 :: u166 :: u167 :: u168 :: u169 :: u170 :: u171 :: u172 :: u173 :: u174 :: u175 :: u176 :: u177 :: u178 :: u179 :: u180 :: u181 :: u182 :: u183 :: u184 :: u185 :: u186 :: u187 :: u188 :: u189 :: u190 :: u191 :: u192 :: u193 :: u194 :: u195 :: u196 :: u197 :: u198 :: u199 :: u200 :: u201 :: u202 :: u203 :: u204 :: u205 :: u206 :: u207 :: u208 :: u209 :: u210 :: u211 :: u212 :: u213 :: u214 :: u215 :: u216 :: u217 :: u218 :: u219 :: u220 :: u221 :: u222 :: u223 :: u224 :: u225 :: u226 :: u227 :: u228 :: u229 :: u230 :: u231 :: u232 :: u233 :: u234 :: u235 :: u236 :: u237 :: c238 :: c239 :: c240 :: c241 :: c242 :: c243 :: c244 :: c245 :: c246 :: c247 :: c248 :: c249 :: c250 :: c251 :: c252 :: c253 :: c254 :: c255 :: c256 :: c257 :: c258 :: c259 :: c260 :: c261 :: c262 :: c263 :: c264 :: c265 :: c266 :: c267 :: c268 :: c269 :: c270 :: c271 :: c272 :: c273 :: c274 :: c275 :: c276 :: c277 :: c278 :: c279 :: c280 :: c281 :: c282 :: c283 :: []), []⟩ wx) :
    Code.wp Tryd.prog (wblk 1) (Exit.then K0 Q') ⟨List.toArray ((.slice (some ⟨gk, 0, none⟩) 64 ck) :: c1 :: c2 :: c3 :: c4 :: c5 :: c6 :: (.slice (some ⟨gm, 0, none⟩) T cm) :: (.slice (some ⟨gs, 0, none⟩) 8 cs) :: (.int .i64 (p : Int)) :: c10 :: c11 :: c12 :: c13 :: c14 :: c15 :: c16 :: c17 :: c18 :: c19 :: c20 :: c21 :: c22 :: c23 :: c24 :: c25 :: c26 :: c27 :: c28 :: c29 :: c30 :: c31 :: c32 :: c33 :: c34 :: c35 :: c36 :: c37 :: c38 :: c39 :: c40 :: c41 :: c42 :: c43 :: c44 :: c45 :: c46 :: c47 :: c48 :: c49 :: c50 :: c51 :: c52 :: c53 :: c54 :: c55 :: c56 :: c57 :: c58 :: c59 :: c60 :: c61 :: c62 :: c63 :: c64 :: c65 :: c66 :: c67 :: c68 :: c69 :: c70 :: c71 :: c72 :: c73 :: c74 :: c75 :: c76 :: c77 :: c78 :: c79 :: c80 :: c81 :: c82 :: c83 :: c84 :: c85 :: c86 :: c87 :: c88 :: c89 :: c90 :: c91 :: c92 :: c93 :: c94 :: c95 :: c96 :: c97 :: c98 :: c99 :: c100 :: c101 :: c102 :: c103 :: c104 :: c105 :: c106 :: c107 :: c108 :: c109 :: c110 :: c111 :: c112 :: c113 :: c114 :: c115 :: c116 :: c117 :: c118 :: c119 :: c120 :: c121 :: c122 :: c123 :: c124 :: c125 :: c126 :: c127 :: c128 :: c129 :: c130 :: c131 :: c132 :: c133 :: c134 :: c135 :: c136 :: c137 :: c138 :: c139 :: c140 :: c141 :: c142 :: c143 :: c144 :: c145 :: c146 :: c147 :: c148 :: c149 :: c150 :: c151 :: c152 :: c153 :: c154 :: c155 :: c156 :: c157 :: c158 :: c159 :: c160 :: c161 :: c162 :: c163 :: c164 :: c165 :: c166 :: c167 :: c168 :: c169 :: c170 :: c171 :: c172 :: c173 :: c174 :: c175 :: c176 :: c177 :: c178 :: c179 :: c180 :: c181 :: c182 :: c183 :: c184 :: c185 :: c186 :: c187 :: c188 :: c189 :: c190 :: c191 :: c192 :: c193 :: c194 :: c195 :: c196 :: c197 :: c198 :: c199 :: c200 :: c201 :: c202 :: c203 :: c204 :: c205 :: c206 :: c207 :: c208 :: c209 :: c210 :: c211 :: c212 :: c213 :: c214 :: c215 :: c216 :: c217 :: c218 :: c219 :: c220 :: c221 :: c222 :: c223 :: c224 :: c225 :: c226 :: c227 :: c228 :: c229 :: c230 :: c231 :: c232 :: c233 :: c234 :: c235 :: c236 :: c237 :: c238 :: c239 :: c240 :: c241 :: c242 :: c243 :: c244 :: c245 :: c246 :: c247 :: c248 :: c249 :: c250 :: c251 :: c252 :: c253 :: c254 :: c255 :: c256 :: c257 :: c258 :: c259 :: c260 :: c261 :: c262 :: c263 :: c264 :: c265 :: c266 :: c267 :: c268 :: c269 :: c270 :: c271 :: c272 :: c273 :: c274 :: c275 :: c276 :: c277 :: c278 :: c279 :: c280 :: c281 :: c282 :: c283 :: []), []⟩ wo := by
  conv => arg 2; whnf
  have HK := Lib.hid hK
  clear hK
  have hkw : gk < wo.heap.size := HKt.out.lt (by rw [length_K]; omega)
  have hsw : gs < wo.heap.size := HSt.out.lt (by rw [length_l]; omega)
  have HWW := Lib.hid (ws_ws P PB.out)
  have lw := length_ws P
  have HC : Go.RowKit.Hid (comp P s = plus s (run (ws P) 64 s)) := Lib.hid rfl
  go_upto_block 2 with fail
  refine with_loop2 _ _ ?hq P TT T p gm cm wo PB P16 HTL hTc hT2 hp64 HT _ _ _ _ _ _ _ _ _ _ _ _ _ _ _ _ _ _ _ _ _ _ _ _ _ _ _ _ _ _ _ _ _ _ _ _ _ _ _ _ _ _ _ _ _ _ _ _ _ _ _ _ _ _ _ _ _ _ _ _ _ _ _ _ _ _ _ _ _ _ _ _ _ _ _ _ _ _ _ _ _ _ _ _ _ _ _ _ _ _ _ _ _ _ _ _ _ _ _ _ _ _ _ _ _ _ _ _ _ _ _ _ _ _ _ _ _ _ _ _ _ _ _ _ _ _ _ _ _ _ _ _ _ _ _ _ _ _ _ _ _ _ _ _ _ _ _ _ _ _ _ _ _ _ _ _ _ _ _ _ _ _ _ _ _ _ _ _ _ _ _ _ _ _ _ _ _ _ _ _ _ _ _ _ _ _ _ _ _ _ _ _ _ _ _ _ _ _ _ _ _ _ _ _ _ _ _ _ _ _ _ _ _ _ _ _ _ _ _ _ _ _ _ _ _ _ _ _ _ _ _ _ _ _ _ _ _ _ _ _ _ _ _ _ _ _ _ _ _ _ _ _ _ _ _ _ _ _ _ _ _ _ _ _ _ _ _ _ _ _ _ _ _ _ _ _ _ _ _ _ ?_
  case hq => exact fun _ _ _ _ _ h => hQp _ _ _ _ _ h
  intro u10 u11 u12 u13 u44 u45 u46 u47 u48 u49 u50 u51 u52 u53 u54 u55 u56 u57 u58 u59 u60 u61 u62 u63 u64 u65 u66 u67 u68 u69 u70 u71 u72 u73 u74 u75 u76 u77 u78 u79 u80 u81 u82 u83 u84 u85 u86 u87 u88 u89 u90 u91 u92 u93 u94 u95 u96 u97 u98 u99 u100 u101 u102 u103 u104 u105 u106 u107 wx hW
  obtain ⟨gw, cw, rfl, hgw, hHw, hBw⟩ : ∃ gw cw, u10 = .slice (some ⟨gw, 0, none⟩) 64 cw ∧ wo.heap.size ≤ gw ∧ Holds wx gw .u32 (ws P) ∧ Below wo.heap.size wo wx := by
    obtain ⟨gw, cw, h1, h2, h3, h4⟩ := hW
    exact ⟨gw, cw, h1, h3, h2, h4⟩
  have HHw := Lib.hid hHw
  have HBw := Lib.hid hBw
  have HK2 := Lib.hid (HKt.out.below hBw hkw)
  have HS2 := Lib.hid (HSt.out.below hBw hsw)
  have d0 : wx.cell? ⟨gs, 0, none⟩ = some (.int .u32 (s.a : Int)) := HS2.out.cell 0 (by rw [length_l]; omega)
  have d1 : wx.cell? ⟨gs, 1, none⟩ = some (.int .u32 (s.b : Int)) := HS2.out.cell 1 (by rw [length_l]; omega)
  have d2 : wx.cell? ⟨gs, 2, none⟩ = some (.int .u32 (s.c : Int)) := HS2.out.cell 2 (by rw [length_l]; omega)
  have d3 : wx.cell? ⟨gs, 3, none⟩ = some (.int .u32 (s.d : Int)) := HS2.out.cell 3 (by rw [length_l]; omega)
  have d4 : wx.cell? ⟨gs, 4, none⟩ = some (.int .u32 (s.e : Int)) := HS2.out.cell 4 (by rw [length_l]; omega)
  have d5 : wx.cell? ⟨gs, 5, none⟩ = some (.int .u32 (s.f : Int)) := HS2.out.cell 5 (by rw [length_l]; omega)
  have d6 : wx.cell? ⟨gs, 6, none⟩ = some (.int .u32 (s.g : Int)) := HS2.out.cell 6 (by rw [length_l]; omega)
  have d7 : wx.cell? ⟨gs, 7, none⟩ = some (.int .u32 (s.h : Int)) := HS2.out.cell 7 (by rw [length_l]; omega)
  clear hW hHw hBw HKt HSt PB P16 HTL HT
  generalize ws P = wl at *
  go_upto_block 4 with fail
  clear d0 d1 d2 d3 d4 d5 d6 d7
  refine with_loop3 _ _ s wl gk ck gw cw wx HS HWW lw HK2 HHw _ _ _ _ _ _ _ _ _ _ _ _ _ _ _ _ _ _ _ _ _ _ _ _ _ _ _ _ _ _ _ _ _ _ _ _ _ _ _ _ _ _ _ _ _ _ _ _ _ _ _ _ _ _ _ _ _ _ _ _ _ _ _ _ _ _ _ _ _ _ _ _ _ _ _ _ _ _ _ _ _ _ _ _ _ _ _ _ _ _ _ _ _ _ _ _ _ _ _ _ _ _ _ _ _ _ _ _ _ _ _ _ _ _ _ _ _ _ _ _ _ _ _ _ _ _ _ _ _ _ _ _ _ _ _ _ _ _ _ _ _ _ _ _ _ _ _ _ _ _ _ _ _ _ _ _ _ _ _ _ _ _ _ _ _ _ _ _ _ _ _ _ _ _ _ _ _ _ _ _ _ _ _ _ _ _ _ _ _ _ _ _ _ _ _ _ _ _ _ _ _ _ _ _ _ _ _ _ _ _ _ _ _ _ _ _ _ _ _ _ _ _ _ _ _ _ _ _ _ _ _ _ _ _ _ _ _ _ _ _ _ _ _ _ _ _ _ _ _ _ _ _ _ _ _ _ _ _ _ _ _ _ _ _ _ _ _ _ _ _ _ _ _ ?_
  intro v22 v23 v24 v132 v133 v134 v135 v136 v137 v138 v139 v140 v141 v142 v143 v144 v145 v146 v147 v148 v149 v150 v151 v152 v153 v154 v155 v156 v157 v158 v159 v160 v161 v162 v163 v164 v165 v166 v167 v168 v169 v170 v171 v172 v173 v174 v175 v176 v177 v178 v179 v180 v181 v182 v183 v184 v185 v186 v187 v188 v189 v190 v191 v192 v193 v194 v195 v196 wy hy
  have HBy : Go.RowKit.Hid (Below wo.heap.size wo wy) := Lib.hid (by obtain ⟨n, rfl⟩ := hy; exact below_drewN HBw.out n)
  have HSy : Holds wy gs .u32 s.l := by obtain ⟨n, rfl⟩ := hy; exact HS2.out
  have d0 : wy.cell? ⟨gs, 0, none⟩ = some (.int .u32 (s.a : Int)) := HSy.cell 0 (by rw [length_l]; omega)
  have d1 : wy.cell? ⟨gs, 1, none⟩ = some (.int .u32 (s.b : Int)) := HSy.cell 1 (by rw [length_l]; omega)
  have d2 : wy.cell? ⟨gs, 2, none⟩ = some (.int .u32 (s.c : Int)) := HSy.cell 2 (by rw [length_l]; omega)
  have d3 : wy.cell? ⟨gs, 3, none⟩ = some (.int .u32 (s.d : Int)) := HSy.cell 3 (by rw [length_l]; omega)
  have d4 : wy.cell? ⟨gs, 4, none⟩ = some (.int .u32 (s.e : Int)) := HSy.cell 4 (by rw [length_l]; omega)
  have d5 : wy.cell? ⟨gs, 5, none⟩ = some (.int .u32 (s.f : Int)) := HSy.cell 5 (by rw [length_l]; omega)
  have d6 : wy.cell? ⟨gs, 6, none⟩ = some (.int .u32 (s.g : Int)) := HSy.cell 6 (by rw [length_l]; omega)
  have d7 : wy.cell? ⟨gs, 7, none⟩ = some (.int .u32 (s.h : Int)) := HSy.cell 7 (by rw [length_l]; omega)
  have HE : Go.RowKit.Hid (∀ x0 x1 x2 x3 x4 x5 x6 x7, (s.a + (run wl 64 s).a) % 4294967296 = x0 → (s.b + (run wl 64 s).b) % 4294967296 = x1 → (s.c + (run wl 64 s).c) % 4294967296 = x2 → (s.d + (run wl 64 s).d) % 4294967296 = x3 → (s.e + (run wl 64 s).e) % 4294967296 = x4 → (s.f + (run wl 64 s).f) % 4294967296 = x5 → (s.g + (run wl 64 s).g) % 4294967296 = x6 → (s.h + (run wl 64 s).h) % 4294967296 = x7 → [x0, x1, x2, x3, x4, x5, x6, x7] = (comp P s).l) := Lib.hid (by
    rintro _ _ _ _ _ _ _ _ rfl rfl rfl rfl rfl rfl rfl rfl
    rw [HC.out]; rfl)
  clear hy HS2 HHw HBw HK2 HSy HC HS HWW
  generalize run wl 64 s = z at *
  have y0 := add_u32 s.a z.a
  have y1 := add_u32 s.b z.b
  have y2 := add_u32 s.c z.c
  have y3 := add_u32 s.d z.d
  have y4 := add_u32 s.e z.e
  have y5 := add_u32 s.f z.f
  have y6 := add_u32 s.g z.g
  have y7 := add_u32 s.h z.h
  generalize (s.a + z.a) % 4294967296 = x0 at *
  generalize (s.b + z.b) % 4294967296 = x1 at *
  generalize (s.c + z.c) % 4294967296 = x2 at *
  generalize (s.d + z.d) % 4294967296 = x3 at *
  generalize (s.e + z.e) % 4294967296 = x4 at *
  generalize (s.f + z.f) % 4294967296 = x5 at *
  generalize (s.g + z.g) % 4294967296 = x6 at *
  generalize (s.h + z.h) % 4294967296 = x7 at *
  have HL := Lib.hid (HE.out x0 x1 x2 x3 x4 x5 x6 x7 rfl rfl rfl rfl rfl rfl rfl rfl)
  clear HE
  go_wp2_with fail
  refine region_quiet_tail 40 (by kernel_rfl) (by kernel_rfl) ?_
  simp only [List.take_succ_cons, List.take_zero, List.drop_succ_cons, List.drop_zero]
  repeat (go_big_quiet_step (fail))
  refine wpQuiet_nil ?_
  intro wd hwd
  have G2 : Below wo.heap.size wo wd := by obtain ⟨n, rfl⟩ := hwd; exact below_drewN HBy.out n
  have GN := Lib.hid (Holds.new wd 38 .u32 [x0, x1, x2, x3, x4, x5, x6, x7])
  have GB := Lib.hid (G2.alloc G2.size (.cells (na .u32 [x0, x1, x2, x3, x4, x5, x6, x7]) 38))
  have gsz := G2.size
  clear hwd G2 d0 d1 d2 d3 d4 d5 d6 d7 y0 y1 y2 y3 y4 y5 y6 y7
  go_wp2
  refine HK.out _ _ _ _ _ _ _ _ _ _ _ _ _ _ _ _ _ _ _ _ _ _ _ _ _ _ _ _ _ _ _ _ _ _ _ _ _ _ _ _ _ _ _ _ _ _ _ _ _ _ _ _ _ _ _ _ _ _ _ _ _ _ _ _ _ _ _ _ _ _ _ _ _ _ _ _ _ _ _ _ _ _ _ _ _ _ _ _ _ _ _ _ _ _ _ _ _ _ _ _ _ _ _ _ _ _ _ _ _ _ _ _ _ _ _ _ _ _ _ _ _ _ _ _ _ _ _ _ _ _ _ _ _ _ _ _ _ _ _ _ _ _ _ _ _ _ _ _ _ _ _ _ _ _ _ _ _ _ _ _ _ _ _ _ _ _ _ _ _ _ _ _ _ _ _ _ _ _ _ _ _ _ _ _ _ _ _ _ _ _ _ _ _ _ _ _ _ _ _ _ _ _ _ _ _ _ _ _ _ _ _ ?_
  refine ⟨wd.heap.size, 8, rfl, ?_, gsz, GB.out⟩
  rw [← HL.out]
  exact GN.out
end Go.Proofs.YtmookhbijmibiaaDoor
