/-
  The reference's With: the 64 steps of a piece (its third loop). Conditions: the kinds and the words lie in their rows. (Written by tools/gen_with.py.)
-/
import Derived.Test.YtmookhbijmibiaaDoorShaWith2
import Derived.Test.YtmookhbijmibiaaDoorShaWork
namespace Go.Proofs.YtmookhbijmibiaaDoor
open Go.RowKit Arr Sh

set_option maxHeartbeats 4000000 in
set_option maxRecDepth 1000000 in
theorem with_loop3 (K0 : Act → World → Prop) (Q' : Exit → Act → World → Prop) (s : St) (wl : List Nat) (gk ck gw cw : Nat) (wo : World) (HS : Go.RowKit.Hid s.Ok) (HWW : Go.RowKit.Hid (Ws wl)) (lw : wl.length = 64) (HKt : Go.RowKit.Hid (Tab32 wo gk K)) (HWt : Go.RowKit.Hid (Holds wo gw .u32 wl))
    (c1 c2 c3 c4 c5 c6 c7 c8 c9 c11 c12 c13 c23 c24 c25 c26 c27 c28 c29 c30 c31 c32 c33 c34 c35 c36 c37 c38 c39 c40 c41 c42 c43 c44 c45 c46 c47 c48 c49 c50 c51 c52 c53 c54 c55 c56 c57 c58 c59 c60 c61 c62 c63 c64 c65 c66 c67 c68 c69 c70 c71 c72 c73 c74 c75 c76 c77 c78 c79 c80 c81 c82 c83 c84 c85 c86 c87 c88 c89 c90 c91 c92 c93 c94 c95 c96 c97 c98 c99 c100 c101 c102 c103 c104 c105 c106 c107 c108 c109 c110 c111 c112 c113 c114 c115 c116 c117 c118 c119 c120 c121 c122 c123 c124 c125 c126 c127 c128 c129 c130 c131 c132 c133 c134 c135 c136 c137 c138 c139 c140 c141 c142 c143 c144 c145 c146 c147 c148 c149 c150 c151 c152 c153 c154 c155 c156 c157 c158 c159 c160 c161 c162 c163 c164 c165 c166 c167 c168 c169 c170 c171 c172 c173 c174 c175 c176 c177 c178 c179 c180 c181 c182 c183 c184 c185 c186 c187 c188 c189 c190 c191 c192 c193 c194 c195 c196 c197 c198 c199 c200 c201 c202 c203 c204 c205 c206 c207 c208 c209 c210 c211 c212 c213 c214 c215 c216 c217 c218 c219 c220 c221 c222 c223 c224 c225 c226 c227 c228 c229 c230 c231 c232 c233 c234 c235 c236 c237 c238 c239 c240 c241 c242 c243 c244 c245 c246 c247 c248 c249 c250 c251 c252 c253 c254 c255 c256 c257 c258 c259 c260 c261 c262 c263 c264 c265 c266 c267 c268 c269 c270 c271 c272 c273 c274 c275 c276 c277 c278 c279 c280 c281 c282 c283 : Value)
    (hK : ∀ (u22 u23 u24 u132 u133 u134 u135 u136 u137 u138 u139 u140 u141 u142 u143 u144 u145 u146 u147 u148 u149 u150 u151 u152 u153 u154 u155 u156 u157 u158 u159 u160 u161 u162 u163 u164 u165 u166 u167 u168 u169 u170 u171 u172 u173 u174 u175 u176 u177 u178 u179 u180 u181 u182 u183 u184 u185 u186 u187 u188 u189 u190 u191 u192 u193 u194 u195 u196 : Value) (wx : World), (∃ n, wx = wo.drewN n) → K0 ⟨List.toArray ((.slice (some ⟨gk, 0, none⟩) 64 ck) :: c1 :: c2 :: c3 :: c4 :: c5 :: c6 :: c7 :: c8 :: c9 :: (.slice (some ⟨gw, 0, none⟩) 64 cw) :: c11 :: c12 :: c13 :: (.int .u32 ((run wl 64 s).a : Int)) :: (.int .u32 ((run wl 64 s).b : Int)) :: (.int .u32 ((run wl 64 s).c : Int)) :: (.int .u32 ((run wl 64 s).d : Int)) :: (.int .u32 ((run wl 64 s).e : Int)) :: (.int .u32 ((run wl 64 s).f : Int)) :: (.int .u32 ((run wl 64 s).g : Int)) :: (.int .u32 ((run wl 64 s).h : Int)) :: u22 :: u23 :: u24 :: c25 :: c26 :: c27 :: c28 :: c29 :: c30 :: c31 :: c32 :: c33 :: c34 :: c35 :: c36 :: c37 :: c38 :: c39 :: c40 :: c41 :: c42 :: c43 :: c44 :: c45 :: c46 :: c47 :: c48 :: c49 :: c50 :: c51 :: c52 :: c53 :: c54 :: c55 :: c56 :: c57 :: c58 :: c59 :: c60 :: c61 :: c62 :: c63 :: c64 :: c65 :: c66 :: c67 :: c68 :: c69 :: c70 :: c71 :: c72 :: c73 :: c74 :: c75 :: c76 :: c77 :: c78 :: c79 :: c80 :: c81 :: c82 :: c83 :: c84 :: c85 :: c86 :: c87 :: c88 :: c89 :: c90 :: c91 :: c92 :: c93 :: c94 :: c95 :: c96 :: c97 :: c98 :: c99 :: c100 :: c101 :: c102 :: c103 :: c104 :: c105 :: c106 :: c107 :: c108 :: c109 :: c110 :: c111 :: c112 :: c113 :: c114 :: c115 :: c116 :: c117 :: c118 :: c119 :: c120 :: c121 :: c122 :: c123 :: c124 :: c125 :: c126 :: c127 :: c128 :: c129 :: c130 :: c131 :: u132 :: u133 :: u134 :: u135 :: u136 :: u137 :: u138 :: u139 :: u140 :: u141 :: u142 :: u143 :: u144 :: u145 :: u146 :: u147 :: u148 :: u149 :: u150 :: u151 :: u152 :: u153 :: u154 :: u155 :: u156 :: u157 :: u158 :: u159 :: u160 :: u161 :: u162 :: u163 :: u164 :: u165 :: u166 :: u167 :: u168 :: u169 :: u170 :: u171 :: u172 :: u173 :: u174 :: u175 :: u176 :: u177 :: u178 :: u179 :: u180 :: u181 :: u182 :: u183 :: u184 :: u185 :: u186 :: u187 :: u188 :: u189 :: u190 :: u191 :: u192 :: u193 :: u194 :: u195 :: u196 :: c197 :: c198 :: c199 :: c200 :: c201 :: c202 :: c203 :: c204 :: c205 :: c206 :: c207 :: c208 :: c209 :: c210 :: c211 :: c212 :: c213 :: c214 :: c215 :: c216 :: c217 :: c218 :: c219 :: c220 :: c221 :: c222 :: c223 :: c224 :: c225 :: c226 :: c227 :: c228 :: c229 :: c230 :: c231 :: c232 :: c233 :: c234 :: c235 :: c236 :: c237 :: c238 :: c239 :: c240 :: c241 :: c242 :: c243 :: c244 :: c245 :: c246 :: c247 :: c248 :: c249 :: c250 :: c251 :: c252 :: c253 :: c254 :: c255 :: c256 :: c257 :: c258 :: c259 :: c260 :: c261 :: c262 :: c263 :: c264 :: c265 :: c266 :: c267 :: c268 :: c269 :: c270 :: c271 :: c272 :: c273 :: c274 :: c275 :: c276 :: c277 :: c278 :: c279 :: c280 :: c281 :: c282 :: c283 :: []), []⟩ wx) :
    Code.wp Tryd.prog (wblk 4) (Exit.then K0 Q') ⟨List.toArray ((.slice (some ⟨gk, 0, none⟩) 64 ck) :: c1 :: c2 :: c3 :: c4 :: c5 :: c6 :: c7 :: c8 :: c9 :: (.slice (some ⟨gw, 0, none⟩) 64 cw) :: c11 :: c12 :: c13 :: (.int .u32 (s.a : Int)) :: (.int .u32 (s.b : Int)) :: (.int .u32 (s.c : Int)) :: (.int .u32 (s.d : Int)) :: (.int .u32 (s.e : Int)) :: (.int .u32 (s.f : Int)) :: (.int .u32 (s.g : Int)) :: (.int .u32 (s.h : Int)) :: (.int .i64 0) :: c23 :: c24 :: c25 :: c26 :: c27 :: c28 :: c29 :: c30 :: c31 :: c32 :: c33 :: c34 :: c35 :: c36 :: c37 :: c38 :: c39 :: c40 :: c41 :: c42 :: c43 :: c44 :: c45 :: c46 :: c47 :: c48 :: c49 :: c50 :: c51 :: c52 :: c53 :: c54 :: c55 :: c56 :: c57 :: c58 :: c59 :: c60 :: c61 :: c62 :: c63 :: c64 :: c65 :: c66 :: c67 :: c68 :: c69 :: c70 :: c71 :: c72 :: c73 :: c74 :: c75 :: c76 :: c77 :: c78 :: c79 :: c80 :: c81 :: c82 :: c83 :: c84 :: c85 :: c86 :: c87 :: c88 :: c89 :: c90 :: c91 :: c92 :: c93 :: c94 :: c95 :: c96 :: c97 :: c98 :: c99 :: c100 :: c101 :: c102 :: c103 :: c104 :: c105 :: c106 :: c107 :: c108 :: c109 :: c110 :: c111 :: c112 :: c113 :: c114 :: c115 :: c116 :: c117 :: c118 :: c119 :: c120 :: c121 :: c122 :: c123 :: c124 :: c125 :: c126 :: c127 :: c128 :: c129 :: c130 :: c131 :: c132 :: c133 :: c134 :: c135 :: c136 :: c137 :: c138 :: c139 :: c140 :: c141 :: c142 :: c143 :: c144 :: c145 :: c146 :: c147 :: c148 :: c149 :: c150 :: c151 :: c152 :: c153 :: c154 :: c155 :: c156 :: c157 :: c158 :: c159 :: c160 :: c161 :: c162 :: c163 :: c164 :: c165 :: c166 :: c167 :: c168 :: c169 :: c170 :: c171 :: c172 :: c173 :: c174 :: c175 :: c176 :: c177 :: c178 :: c179 :: c180 :: c181 :: c182 :: c183 :: c184 :: c185 :: c186 :: c187 :: c188 :: c189 :: c190 :: c191 :: c192 :: c193 :: c194 :: c195 :: c196 :: c197 :: c198 :: c199 :: c200 :: c201 :: c202 :: c203 :: c204 :: c205 :: c206 :: c207 :: c208 :: c209 :: c210 :: c211 :: c212 :: c213 :: c214 :: c215 :: c216 :: c217 :: c218 :: c219 :: c220 :: c221 :: c222 :: c223 :: c224 :: c225 :: c226 :: c227 :: c228 :: c229 :: c230 :: c231 :: c232 :: c233 :: c234 :: c235 :: c236 :: c237 :: c238 :: c239 :: c240 :: c241 :: c242 :: c243 :: c244 :: c245 :: c246 :: c247 :: c248 :: c249 :: c250 :: c251 :: c252 :: c253 :: c254 :: c255 :: c256 :: c257 :: c258 :: c259 :: c260 :: c261 :: c262 :: c263 :: c264 :: c265 :: c266 :: c267 :: c268 :: c269 :: c270 :: c271 :: c272 :: c273 :: c274 :: c275 :: c276 :: c277 :: c278 :: c279 :: c280 :: c281 :: c282 :: c283 :: []), []⟩ wo := by
  conv => arg 2; whnf
  have HK := Lib.hid hK
  clear hK
  go_wp2_with fail
  go_loopw [14, 15, 16, 17, 18, 19, 20, 21, 22] (fun va vb vc vd ve vf vg vh i wx => ∃ (t : Nat) (z : St), t ≤ 64 ∧ i = .int .i64 (t : Nat) ∧ Go.RowKit.Hid (z = run wl t s) ∧ va = .int .u32 (z.a : Nat) ∧ vb = .int .u32 (z.b : Nat) ∧ vc = .int .u32 (z.c : Nat) ∧ vd = .int .u32 (z.d : Nat) ∧ ve = .int .u32 (z.e : Nat) ∧ vf = .int .u32 (z.f : Nat) ∧ vg = .int .u32 (z.g : Nat) ∧ vh = .int .u32 (z.h : Nat) ∧ ∃ n, wx = wo.drewN n) (fun _ _ _ _ _ _ _ _ i _ => 64 - (intOf i).toNat)
  case atStart => exact ⟨0, s, by omega, rfl, Lib.hid rfl, rfl, rfl, rfl, rfl, rfl, rfl, rfl, rfl, 0, rfl⟩
  case round =>
    obtain ⟨t, z, ht, rfl, HZ, rfl, rfl, rfl, rfl, rfl, rfl, rfl, rfl, nw, rfl⟩ := hrel
    by_cases hlt : t < 64
    · as_aux_lemma =>
      clear HK
      have tt : decide ((t : Int) < 64) = true := by simp; omega
      have ti : (t : Int) < 64 := by omega
      have hok : z.Ok := by rw [HZ.out]; exact run_ok _ HS.out t
      have HZ' : Go.RowKit.Hid (Sh.step (K.getD t 0) (wl.getD t 0) z = run wl (t + 1) s) := Lib.hid (by rw [HZ.out]; rfl)
      have cK : (wo.drewN nw).cell? ⟨gk, t, none⟩ = some (.int .u32 ((K.getD t 0 : Nat) : Int)) := HKt.out t (by rw [length_K]; omega)
      have cW : (wo.drewN nw).cell? ⟨gw, t, none⟩ = some (.int .u32 ((wl.getD t 0 : Nat) : Int)) := HWt.out.cell t (by omega)
      have HVW : Go.RowKit.Hid (∃ n, wo.drewN nw = wo.drewN n) := Lib.hid ⟨nw, rfl⟩
      generalize wo.drewN nw = wy at *
      have hk := K_lt t
      have hv := HWW.out t
      obtain ⟨la, lb, lc, ld, le, lf, lg, lh⟩ := hok
      have CT : Go.RowKit.Hid (∀ (x n : Nat), x < 4294967296 → n < 32 → ∀ w', Calls Tryd.prog 25 #[.int .u32 (x : Int), .int .i64 (n : Int)] w' fun e w'' => e = .returned (.int .u32 ((rot x n : Nat) : Int)) ∧ w'' = w') := Lib.hid (fun x n h1 h2 w' => (turn_any x n h1 h2 w').mono fun e w'' h => ⟨h.1, h.2.symm⟩)
      have D1 : Go.RowKit.Hid (∀ w', Calls Tryd.prog 25 #[.int .u32 (z.e : Int), .int .i64 6] w' fun e w'' => e = .returned (.int .u32 ((rot z.e 6 : Nat) : Int)) ∧ w'' = w') := Lib.hid (CT.out z.e 6 le (by omega))
      have D2 : Go.RowKit.Hid (∀ w', Calls Tryd.prog 25 #[.int .u32 (z.e : Int), .int .i64 11] w' fun e w'' => e = .returned (.int .u32 ((rot z.e 11 : Nat) : Int)) ∧ w'' = w') := Lib.hid (CT.out z.e 11 le (by omega))
      have D3 : Go.RowKit.Hid (∀ w', Calls Tryd.prog 25 #[.int .u32 (z.e : Int), .int .i64 25] w' fun e w'' => e = .returned (.int .u32 ((rot z.e 25 : Nat) : Int)) ∧ w'' = w') := Lib.hid (CT.out z.e 25 le (by omega))
      have E1 : Go.RowKit.Hid (∀ w', Calls Tryd.prog 25 #[.int .u32 (z.a : Int), .int .i64 2] w' fun e w'' => e = .returned (.int .u32 ((rot z.a 2 : Nat) : Int)) ∧ w' = w'') := Lib.hid (fun w' => turn_any z.a 2 la (by omega) w')
      have E2 : Go.RowKit.Hid (∀ w', Calls Tryd.prog 25 #[.int .u32 (z.a : Int), .int .i64 13] w' fun e w'' => e = .returned (.int .u32 ((rot z.a 13 : Nat) : Int)) ∧ w' = w'') := Lib.hid (fun w' => turn_any z.a 13 la (by omega) w')
      have E3 : Go.RowKit.Hid (∀ w', Calls Tryd.prog 25 #[.int .u32 (z.a : Int), .int .i64 22] w' fun e w'' => e = .returned (.int .u32 ((rot z.a 22 : Nat) : Int)) ∧ w' = w'') := Lib.hid (fun w' => turn_any z.a 22 la (by omega) w')
      have p1 := u32_xor_nat _ _ (rot_lt z.e 6 le (by omega)) (rot_lt z.e 11 le (by omega))
      have p2 : bits .xor .u32 ((rot z.e 6 ^^^ rot z.e 11 : Nat) : Int) ((rot z.e 25 : Nat) : Int) = ((tri z.e 6 11 25 : Nat) : Int) := u32_xor_nat _ _ (xor32 (rot_lt z.e 6 le (by omega)) (rot_lt z.e 11 le (by omega))) (rot_lt z.e 25 le (by omega))
      have p3 := u32_xor_nat _ _ (rot_lt z.a 2 la (by omega)) (rot_lt z.a 13 la (by omega))
      have p4 : bits .xor .u32 ((rot z.a 2 ^^^ rot z.a 13 : Nat) : Int) ((rot z.a 22 : Nat) : Int) = ((tri z.a 2 13 22 : Nat) : Int) := u32_xor_nat _ _ (xor32 (rot_lt z.a 2 la (by omega)) (rot_lt z.a 13 la (by omega))) (rot_lt z.a 22 la (by omega))
      have q1 := u32_and_nat z.e z.f le lf
      have q2 : IntKind.u32.wrap (4294967295 - (z.e : Int)) = ((4294967295 - z.e : Nat) : Int) := by rw [IntKind.wrap_u32]; omega
      have q3 := u32_and_nat (4294967295 - z.e) z.g (by omega) lg
      have q4 : bits .xor .u32 ((z.e &&& z.f : Nat) : Int) (((4294967295 - z.e) &&& z.g : Nat) : Int) = ((ch z.e z.f z.g : Nat) : Int) := by rw [u32_xor_nat _ _ (and32 le) (and32 (by omega)), ch_xor _ _ _ le]
      have r1 := u32_and_nat z.a z.b la lb
      have r2 := u32_and_nat z.a z.c la lc
      have r3 := u32_xor_nat _ _ (and32 (b := z.b) la) (and32 (b := z.c) la)
      have r4 := u32_and_nat z.b z.c lb lc
      have r5 : bits .xor .u32 (((z.a &&& z.b) ^^^ (z.a &&& z.c) : Nat) : Int) ((z.b &&& z.c : Nat) : Int) = ((maj z.a z.b z.c : Nat) : Int) := by rw [u32_xor_nat _ _ (xor32 (and32 la) (and32 la)) (and32 lb), maj_xor]
      generalize hx1 : (z.h + tri z.e 6 11 25) % 4294967296 = x1
      generalize hx2 : (x1 + ch z.e z.f z.g) % 4294967296 = x2
      generalize hx3 : (x2 + K.getD t 0) % 4294967296 = x3
      generalize hx4 : (x3 + wl.getD t 0) % 4294967296 = x4
      generalize hx5 : (tri z.a 2 13 22 + maj z.a z.b z.c) % 4294967296 = x5
      generalize hx6 : (z.d + x4) % 4294967296 = x6
      generalize hx7 : (x4 + x5) % 4294967296 = x7
      have hst : Sh.step (K.getD t 0) (wl.getD t 0) z = ⟨x7, z.a, z.b, z.c, x6, z.e, z.f, z.g⟩ := by
        subst hx1 hx2 hx3 hx4 hx5 hx6 hx7; rfl
      rw [hst] at HZ'
      have y1 := add_u32 z.h (tri z.e 6 11 25)
      have y2 := add_u32 x1 (ch z.e z.f z.g)
      have y3 := add_u32 x2 (K.getD t 0)
      have y4 := add_u32 x3 (wl.getD t 0)
      have y5 := add_u32 (tri z.a 2 13 22) (maj z.a z.b z.c)
      have y6 := add_u32 z.d x4
      have y7 := add_u32 x4 x5
      rw [hx1] at y1
      rw [hx2] at y2
      rw [hx3] at y3
      rw [hx4] at y4
      rw [hx5] at y5
      rw [hx6] at y6
      rw [hx7] at y7
      clear hst hx1 hx2 hx3 hx4 hx5 hx6 hx7 CT HKt HWt HWW HS HZ
      generalize tri z.e 6 11 25 = u1 at *
      generalize tri z.a 2 13 22 = u2 at *
      generalize ch z.e z.f z.g = u3 at *
      generalize maj z.a z.b z.c = u4 at *
      generalize K.getD t 0 = kt at *
      generalize wl.getD t 0 = wt at *
      generalize (4294967295 - z.e) = ne at *
      generalize z.e &&& z.f = u5 at *
      generalize ne &&& z.g = u6 at *
      generalize (z.a &&& z.b) ^^^ (z.a &&& z.c) = u9 at *
      generalize z.a &&& z.b = u7 at *
      generalize z.a &&& z.c = u8 at *
      generalize z.b &&& z.c = u10 at *
      generalize rot z.e 6 ^^^ rot z.e 11 = v1 at *
      generalize rot z.a 2 ^^^ rot z.a 13 = v2 at *
      generalize rot z.e 6 = v3 at *
      generalize rot z.e 11 = v4 at *
      generalize rot z.e 25 = v5 at *
      generalize rot z.a 2 = v6 at *
      generalize rot z.a 13 = v7 at *
      generalize rot z.a 22 = v8 at *
      go_wp2_with fail
      go_quiet (first | (go_at_call 25; first | (with_reducible exact Calls.quiet_of_same (D1.out _)) | (with_reducible exact Calls.quiet_of_same (D2.out _)) | (with_reducible exact Calls.quiet_of_same (D3.out _))))
      have HV : Go.RowKit.Hid (∃ n, wy.drewN nq = wo.drewN n) := Lib.hid (by obtain ⟨n, hn⟩ := HVW.out; exact ⟨n + nq, by rw [hn, World.drewN_drewN]⟩)
      clear cK cW D1 D2 D3
      generalize wy.drewN nq = w5 at *
      go_wp2_with fail
      refine (E1.out _).mono ?_
      rintro e w6 ⟨rfl, rfl⟩
      go_wp2_with fail
      refine (E2.out _).mono ?_
      rintro e w6 ⟨rfl, rfl⟩
      go_wp2_with fail
      refine (E3.out _).mono ?_
      rintro e w6 ⟨rfl, rfl⟩
      go_wp2
      go_roundw
      case rel => exact ⟨t + 1, ⟨x7, z.a, z.b, z.c, x6, z.e, z.f, z.g⟩, by omega, by go_num, HZ', rfl, rfl, rfl, rfl, rfl, rfl, rfl, rfl, HV.out⟩
      case measure => simp [intOf]; omega
    · have et : (t : Int) = 64 := by omega
      rw [et]
      obtain rfl : t = 64 := by omega
      clear et
      have hz := HZ.out
      subst hz
      have t1 : decide ((64 : Int) < 64) = false := by decide
      generalize run wl 64 s = z at *
      go_wp2
      exact HK.out _ _ _ _ _ _ _ _ _ _ _ _ _ _ _ _ _ _ _ _ _ _ _ _ _ _ _ _ _ _ _ _ _ _ _ _ _ _ _ _ _ _ _ _ _ _ _ _ _ _ _ _ _ _ _ _ _ _ _ _ _ _ _ _ _ _ _ _ _ ⟨nw, rfl⟩
end Go.Proofs.YtmookhbijmibiaaDoor
