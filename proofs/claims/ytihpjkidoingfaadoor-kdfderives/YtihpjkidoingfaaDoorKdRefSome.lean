/-
  Contract of the reference's Derive where it derives a key. Conditions: the key has at most 100 bytes, there are at most 8 contexts, none of more than 100 bytes; all lie below, in their slices.
-/
import Derived.Test.YtihpjkidoingfaaDoorKdRef
namespace Go.Proofs.YtihpjkidoingfaaDoor
open Go.RowKit Arr Sh Hm Kd

/-- Where the text stands when t contexts are laid. -/
def rt (lab : List Nat) (cs : List (List Nat)) (j t : Nat) : List Nat := ([j] ++ lab ++ [0]) ++ ctx (cs.take t)
theorem rt_all (lab : List Nat) (cs : List (List Nat)) (j n N : Nat) (hN : cs.length = N) (hn : n ≤ 128) : rt lab cs j N ++ [0, n] = kt lab cs n j := by
  rw [rt, kt, List.take_of_length_le (by omega), bytesOf_two n hn]
  simp
theorem rt_step (lab : List Nat) (cs : List (List Nat)) (j t : Nat) (h : t < cs.length) : rt lab cs j (t + 1) = rt lab cs j t ++ bytesOf cs[t].length 8 ++ cs[t] := by
  rw [rt, ctx_snoc cs t h, rt]
  simp
theorem kt_lt (lab : List Nat) (cs : List (List Nat)) (n j : Nat) (hl : ∀ x, x ∈ lab → x < 256) (hc : ∀ c ∈ cs, ∀ x, x ∈ c → x < 256) (hj : j < 256) : ∀ x, x ∈ kt lab cs n j → x < 256 := by
  intro x hx
  simp only [kt, List.mem_cons, List.mem_append] at hx
  rcases hx with rfl | h | rfl | h | h
  · exact hj
  · exact hl x h
  · omega
  · simp only [ctx, List.mem_flatten, List.mem_map] at h
    obtain ⟨l, ⟨c, hcm, rfl⟩, hxl⟩ := h
    rcases List.mem_append.1 hxl with h | h
    · exact bytesOf_lt _ _ x h
    · exact hc c hcm x h
  · exact bytesOf_lt _ _ x h
theorem length_rt (lab : List Nat) (cs : List (List Nat)) (j t : Nat) (hc : ∀ i (h : i < cs.length), cs[i].length ≤ 100) : (rt lab cs j t).length ≤ lab.length + 2 + 108 * t := by
  have h1 := length_ctx_le (cs.take t) (fun i hi => by rw [List.getElem_take]; exact hc i (by rw [List.length_take] at hi; omega))
  have h2 : (cs.take t).length ≤ t := by rw [List.length_take]; omega
  have h3 : 108 * (cs.take t).length ≤ 108 * t := Nat.mul_le_mul_left 108 h2
  simp only [rt, List.length_append, List.length_cons, List.length_nil]
  omega
theorem lit_owns (w : World) (l : List Nat) (n : Nat) (hn : l.length = n) (h : n ≤ 1000) (arr : Array Value) (ha : arr = (vals .u8 l).toArray) : (w.alloc (.cells arr 5)).ownsRow w.heap.size 5 1 (.slice (some ⟨w.heap.size, 0, none⟩) n n) n (vals .u8 l) := by
  subst hn ha
  have := World.ownsRow_lit (base := w.heap.size) (e := 5) (size := 1) w (vals .u8 l).toArray l.length (Nat.le_refl _) (by unfold maxLen; omega) (by simp [vals])
  simpa using this
theorem take_more (F : List Nat) (q : Nat) : F.take (q + 32) = F.take q ++ (F.drop q).take 32 := by rw [List.take_add]

set_option maxHeartbeats 2000000 in
set_option maxRecDepth 10000 in
theorem rderive_some (ks : List Nat) (K : Option Addr) (n0 d0 : Nat) (hl : ks.length = n0) (hKd : K = none → d0 = 0) (hn0 : n0 ≤ 100) (s : ByteArray) (n : Nat) (he : derErr n0 (labOf s) (n : Int) = 0) (ps : List Pt) (A : Option Addr) (N c : Nat) (hN : ps.length = N) (hN2 : N ≤ 8) (hT : ∀ i (h : i < ps.length), ps[i].bs.length ≤ 100) (hTn : ∀ i (h : i < ps.length), ps[i].A = none → ps[i].c = 0)
    (w : World) (hb : Bys w w.heap.size K ks) (hp : Parts w w.heap.size A ps) :
    Calls Tryd.prog 9 #[.slice K n0 d0, .string s, .int .i64 (n : Int), .slice A N c] w (DerU (der ks (labOf s) (ps.map (·.bs)) n) n 0 w) := by
  obtain ⟨h0, h1, h2, h3, h4⟩ := derErr_zero he
  rw [length_labOf] at h3
  have hn1 : 1 ≤ n := by omega
  have hn2 : n ≤ 128 := by omega
  have k1 : ((n0 : Int) == 0) = false := by simp; omega
  have t1 : decide ((n : Int) < 1) = false := decide_eq_false (by omega)
  have t2 : decide (128 < (n : Int)) = false := decide_eq_false (by omega)
  have t3 : decide ((n : Int) > 128) = false := decide_eq_false (by omega)
  have t4 : decide ((64 : Int) < (s.size : Int)) = false := by simp; omega
  have t5 : decide ((s.size : Int) > 64) = false := by simp; omega
  obtain ⟨cs, ecs⟩ : ∃ cs, cs = ps.map (·.bs) := ⟨_, rfl⟩
  rw [← ecs]
  have hcsN : cs.length = N := by rw [ecs, List.length_map, hN]
  have hcsT : ∀ i (h : i < cs.length), cs[i].length ≤ 100 := fun i h => by
    have hi : i < ps.length := by omega
    have : cs[i] = ps[i].bs := by simp [ecs]
    rw [this]; exact hT i hi
  have hcsB : ∀ c ∈ cs, ∀ x, x ∈ c → x < 256 := fun c hc => by
    rw [ecs] at hc
    obtain ⟨p, hpm, rfl⟩ := List.mem_map.1 hc
    obtain ⟨i, hi, rfl⟩ := List.getElem_of_mem hpm
    exact (hp.each i hi).2.1
  have HI := Lib.hid (run_at s)
  have LL := Lib.hid (length_labOf s)
  have LB := Lib.hid (labOf_lt s)
  have HNZ : Go.RowKit.Hid (∀ t, t < s.size → (labOf s).getD t 0 ≠ 0) := Lib.hid (fun t ht hz => h4 (by
    have hl : t < (labOf s).length := by rw [length_labOf]; exact ht
    have : (labOf s).getD t 0 = (labOf s)[t] := by simp [hl]
    rw [← hz, this]; exact List.getElem_mem hl))
  have RS : Go.RowKit.Hid (∀ j t, t < N → ∀ h : t < ps.length, rt (labOf s) cs j (t + 1) = rt (labOf s) cs j t ++ bytesOf ps[t].bs.length 8 ++ ps[t].bs) := Lib.hid (fun j t ht h => by
    rw [rt_step _ cs j t (by omega)]
    have : cs[t]'(by omega) = ps[t].bs := by simp [ecs]
    rw [this])
  have RL : Go.RowKit.Hid (∀ j t, t ≤ N → (rt (labOf s) cs j t).length ≤ 930) := Lib.hid (fun j t ht => by
    have := length_rt (labOf s) cs j t hcsT
    rw [length_labOf] at this
    omega)
  have RA : Go.RowKit.Hid (∀ j, rt (labOf s) cs j N ++ [0, n] = kt (labOf s) cs n j) := Lib.hid (fun j => rt_all _ cs j n N hcsN hn2)
  have R0 : Go.RowKit.Hid (∀ j, rt (labOf s) cs j 0 = [j] ++ labOf s ++ [0]) := Lib.hid (fun j => by simp [rt, ctx])
  have KB : Go.RowKit.Hid (∀ j, j < 256 → ∀ x, x ∈ kt (labOf s) cs n j → x < 256) := Lib.hid (fun j hj => kt_lt _ cs n j (labOf_lt s) hcsB hj)
  obtain ⟨F, eF⟩ : ∃ F, F = kf ks (labOf s) cs n := ⟨_, rfl⟩
  have FL : F.length = 128 := by rw [eF]; exact length_kf _ _ _ _
  have FB : Go.RowKit.Hid (∀ x, x ∈ F → x < 256) := Lib.hid (by rw [eF]; exact kf_lt _ _ _ _)
  have FP : Go.RowKit.Hid (∀ i, i < 4 → (F.drop (32 * i)).take 32 = tag ks (kt (labOf s) cs n (i + 1))) := Lib.hid (fun i hi => by rw [eF]; exact kf_part ks (labOf s) cs n i hi)
  have HD : Go.RowKit.Hid (der ks (labOf s) cs n = F.take n) := Lib.hid (by rw [der, eF])
  have CT : Go.RowKit.Hid (∀ w' i A1 n1 c1, i < 4 → Below w.heap.size w w' → (kt (labOf s) cs n (i + 1)).length = n1 → n1 ≤ 932 → (A1 = none → c1 = 0) → Bys w' w'.heap.size A1 (kt (labOf s) cs n (i + 1)) → Calls Tryd.prog 17 #[.slice K n0 d0, .slice A1 n1 c1] w' (GivesB ((F.drop (32 * i)).take 32) w')) := Lib.hid (fun w' i A1 n1 c1 hi hB h1 h2 h3 h4 => by
    rw [FP.out i hi]
    exact rtag_any ks K n0 d0 hl (by omega) hKd _ A1 n1 c1 h1 (by omega) h3 w' ((hb.below hB).more hB.size) h4)
  have CL : Go.RowKit.Hid (∀ w' l, l.length = 32 → Calls Tryd.prog 16 #[.agg (na .u8 l)] w' (OwnB l w')) := Lib.hid (fun w' l h => list_any l h w')
  have CP : Go.RowKit.Hid (∀ w' (x : Nat), x ≤ 100 → Calls Tryd.prog 13 #[.int .u64 (x : Int)] w' (MadeBytes (bytesOf x 8) w')) := Lib.hid (fun w' x hx => rput64_any x (by omega) w')
  have HP := Lib.hid hp
  have HT := Lib.hid hT
  have HTN := Lib.hid hTn
  have HN := Lib.hid hN
  have q1 : Int.tdiv (n : Int) 256 = 0 := Int.tdiv_eq_zero_of_lt (by omega) (by omega)
  have q2 : (n : Int) / 256 = 0 := by omega
  have q3 : Int.tmod (n : Int) 256 = n := Int.tmod_eq_of_lt (by omega) (by omega)
  have q4 : (n : Int) % 256 = n := by omega
  have q5 : IntKind.i64.wrap (n : Int) = n := by rw [IntKind.wrap_i64]; omega
  have q6 : IntKind.u8.wrap (n : Int) = n := by rw [IntKind.wrap_u8]; omega
  have q7 : IntKind.u8.wrap 0 = 0 := by rw [IntKind.wrap_u8]; rfl
  have q8 : IntKind.i64.wrap 0 = 0 := by rw [IntKind.wrap_i64]; rfl
  clear h0 h1 h2 h4 he hl hKd hb hp hT hTn hN ecs hcsN hcsT hcsB eF
  rw [HD.out]
  clear HD
  generalize labOf s = lab at *
  go_enter Tryd.func9, Tryd.ntmps9
  go_wp2_with fail
  go_loopw [10, 11] (fun v i wr => ∃ t : Nat, t ≤ s.size ∧ i = .int .i64 (t : Nat) ∧ wr.ownsRow w.heap.size 5 1 v t (vals .u8 (lab.take t)) ∧ Below w.heap.size w wr) (fun _ i _ => s.size - (intOf i).toNat)
  case atStart => exact ⟨0, Nat.zero_le _, rfl, World.ownsRow_nil w w.heap.size 5 1, Below.refl _ _⟩
  case round =>
    obtain ⟨t, ht, rfl, ho, hb⟩ := hrel
    by_cases hlt : t < s.size
    · as_aux_lemma =>
      have tt : decide ((t : Int) < (s.size : Int)) = true := by simp; omega
      have hi := HI.out t hlt
      have HTK := Lib.hid (take_snoc lab t (by rw [LL.out]; exact hlt))
      have hy := HNZ.out t hlt
      have hyb : (((lab.getD t 0 : Nat) : Int) == 0) = false := by rw [beq_eq_false_iff_ne]; omega
      have HO := Lib.hid ho
      have HB := Lib.hid hb
      have hsz := hb.size
      clear hb ho hy q1 q2 q3 q4 q5 q6 q7 q8
      generalize lab.getD t 0 = y at *
      go_wp2_with (at_builtin; refine append_one rfl (.tmp 38) (.tmp 42) 22 rfl w.heap.size 5 (.int .u8 0) 1 Tryd.underlying22 info_u8 rfl _ t _ (.int .u8 (y : Int)) rfl HO.out rfl rfl (by omega) (by omega) hsz ?_; intro v' w2 hown2 hbel2)
      go_roundw
      case rel => exact ⟨t + 1, by omega, by go_num, by rw [HTK.out, vals_snoc]; exact hown2, HB.out.trans hbel2⟩
      case measure => simp [intOf]; omega
    · as_aux_lemma =>
      obtain rfl : t = s.size := by omega
      have tt : decide ((s.size : Int) < (s.size : Int)) = false := by simp
      have hfull : lab.take s.size = lab := List.take_of_length_le (by rw [LL.out]; omega)
      rw [hfull] at ho
      obtain ⟨AL, cL, rfl, hAL, hcL, hlL, hyL⟩ := owns_any ho LB.out
      have HYL := Lib.hid hyL
      have HAL := Lib.hid hAL
      have HB1 := Lib.hid hb
      clear ho hb hfull hyL hAL hcL hlL HI HNZ ht hlt
      obtain ⟨wl, rfl⟩ : ∃ wl : World, wl = wr := ⟨_, rfl⟩
      go_wp2_with fail
      go_loopw [12, 13] (fun v i w2 => ∃ j q : Nat, j ≤ 4 ∧ q ≤ 128 ∧ Go.RowKit.Hid (q = 32 * j) ∧ i = .int .i64 ((j + 1 : Nat) : Int) ∧ w2.ownsRow wl.heap.size 5 1 v q (vals .u8 (F.take q)) ∧ Below wl.heap.size wl w2) (fun _ i _ => 5 - (intOf i).toNat)
      case atStart => exact ⟨0, 0, by omega, by omega, Lib.hid rfl, rfl, World.ownsRow_nil wl wl.heap.size 5 1, Below.refl _ _⟩
      case round =>
        obtain ⟨j, q, hj, hq, hqj, rfl, ho, hb⟩ := hrel
        obtain ⟨A2, c2, rfl, hA2, hc2, hl2, hy2⟩ := owns_any ho (fun x hx => FB.out x (List.mem_of_mem_take hx))
        have HO := Lib.hid ho
        have HB := Lib.hid hb
        have hsz := hb.size
        clear ho hb hl2
        obtain ⟨j1, ej1⟩ : ∃ j1, j1 = j + 1 := ⟨_, rfl⟩
        rw [← ej1]
        have hj5 : j1 ≤ 5 := by omega
        have EJ := Lib.hid ej1
        by_cases hlt : q < n
        · as_aux_lemma =>
          have tt : decide ((q : Int) < (n : Int)) = true := by simp; omega
          have hj4 : j < 4 := by have := hqj.out; omega
          have wj : IntKind.u8.wrap (j1 : Int) = (j1 : Int) := by rw [IntKind.wrap_u8]; omega
          have wj2 : IntKind.i64.wrap ((j1 : Int) + 1) = (j1 : Int) + 1 := by rw [IntKind.wrap_i64]; omega
          have HJ4 := Lib.hid hj4
          clear hA2 hc2 hy2 hj hj4 ej1
          obtain ⟨wm, rfl⟩ : ∃ wm : World, wm = wr := ⟨_, rfl⟩
          have O3 := Lib.hid (lit_owns wm [j1] 1 rfl (by omega) #[.int .u8 (j1 : Int)] rfl)
          have b3 := below_alloc wm (.cells #[.int .u8 (j1 : Int)] 5)
          have B3 := Lib.hid b3
          have hs3 := b3.size
          have HY3 := Lib.hid ((HYL.out.below HB.out).below (b3.mono hsz)).nums
          clear b3
          go_upto_region 19 with fail
          generalize wm.alloc (.cells #[.int .u8 (j1 : Int)] 5) = w3 at *
          go_upto_region 20 with (at_builtin; refine append_many rfl (.tmp 53) (.tmp 54) 22 rfl wm.heap.size 5 .u8 1 Tryd.underlying22 info_u8 (by omega) (.slice (some ⟨wm.heap.size, 0, none⟩) 1 1) 1 [j1] rfl O3.out AL s.size cL lab rfl HAL.out LL.out wl.heap.size HY3.out (by omega) hs3 ?_; intro v4 w4 hown4 hbel4)
          have O4 := Lib.hid hown4
          have B4 := Lib.hid (B3.out.trans hbel4)
          have hs4 := B4.out.size
          clear hown4 hbel4 O3 B3 HY3 hs3
          go_upto_region 21 with (at_builtin; refine append_one rfl (.tmp 56) (.tmp 57) 22 rfl wm.heap.size 5 (.int .u8 0) 1 Tryd.underlying22 info_u8 rfl v4 (1 + s.size) _ (.int .u8 0) rfl O4.out rfl rfl (by omega) (by omega) hs4 ?_; intro v5 w5 hown5 hbel5)
          have o5 : w5.ownsRow wm.heap.size 5 1 v5 (1 + s.size + 1) (vals .u8 (rt lab cs j1 0)) := by
            rw [R0.out, vals_snoc]; exact hown5
          have O5 := Lib.hid o5
          have B5 := Lib.hid (B4.out.trans hbel5)
          clear hown5 hbel5 o5 O4 B4 hs4
          go_wp2_with fail
          go_loopw [14, 15] (fun v i w6 => ∃ t L : Nat, t ≤ N ∧ i = .int .i64 (t : Nat) ∧ w6.ownsRow wm.heap.size 5 1 v L (vals .u8 (rt lab cs j1 t)) ∧ Below wm.heap.size wm w6) (fun _ i _ => N - (intOf i).toNat)
          case atStart => exact ⟨0, _, Nat.zero_le _, rfl, O5.out, B5.out⟩
          case round =>
            clear O5 B5
            obtain ⟨t, L, htN, rfl, ho, hb⟩ := hrel
            have hL : L ≤ 930 := by
              have h1 := ho.1
              have h2 := RL.out j1 t htN
              simp only [vals, List.length_map] at h1
              omega
            have HO6 := Lib.hid ho
            have HB6 := Lib.hid hb
            have hsz6 := hb.size
            have HBW := Lib.hid (HB1.out.trans ((HB.out.mono (HB1.out.size)).trans (hb.mono (Nat.le_trans HB1.out.size hsz))))
            have hwl := HB1.out.size
            clear ho hb
            by_cases hltN : t < N
            · as_aux_lemma =>
              have tN : decide ((t : Int) < (N : Int)) = true := by simp; omega
              have tiN : (t : Int) < (N : Int) := by omega
              have tl : t < ps.length := by rw [HN.out]; exact hltN
              obtain ⟨pb, po, rfl, hpb, hpc⟩ := (HP.out.below HBW.out).heads (by omega)
              have cp := hpc t tl
              have he := ((HP.out.below HBW.out).each t tl).2
              have hbt := HT.out t tl
              have HTNt := Lib.hid (HTN.out t tl)
              have HRS := Lib.hid (RS.out j1 t hltN tl)
              have HE := Lib.hid he
              clear hpc he
              generalize ps[t].bs = ib at *
              obtain ⟨il, eil⟩ : ∃ il, il = ib.length := ⟨_, rfl⟩
              rw [← eil] at hbt HRS cp
              have EIL := Lib.hid eil
              clear eil
              generalize ps[t].A = iA at *
              generalize ps[t].c = ic at *
              have wil : IntKind.u64.wrap (il : Int) = (il : Int) := by rw [IntKind.wrap_u64]; omega
              have C6 := Lib.hid (CP.out wr il hbt)
              have L8 := length_bytesOf il 8
              have B8 := Lib.hid (bytesOf_lt il 8)
              clear q1 q2 q3 q4 q5 q6 q7 q8 wj
              go_wp2_with fail
              refine C6.out.mono ?_
              rintro e w7 ⟨A7, c7, rfl, hy7, hB7⟩
              rw [L8]
              have O7 := Lib.hid (owns_below HO6.out hB7)
              have B7 := Lib.hid (HB6.out.trans (hB7.mono hsz6))
              have N7 : Go.RowKit.Hid (A7 = none → c7 = 0) := Lib.hid (fun h => by
                obtain ⟨b, off, e, _⟩ := hy7.2 (by omega)
                rw [h] at e; cases e)
              have Y7 := Lib.hid hy7.nums
              have hs7 := B7.out.size
              have E7 := Lib.hid (HE.out.below (hB7.mono HBW.out.size))
              have cp7 := (hB7.cell (p := ⟨pb, po + t, none⟩) (Nat.lt_of_lt_of_le hpb HBW.out.size)).trans cp
              clear hy7 hB7 C6 cp HE
              go_upto_region 25 with (at_builtin; refine append_many rfl (.tmp 65) (.tmp 72) 22 rfl wm.heap.size 5 .u8 1 Tryd.underlying22 info_u8 (by omega) _ L (rt lab cs j1 t) rfl O7.out A7 8 c7 (bytesOf il 8) rfl N7.out L8 w7.heap.size Y7.out (by omega) hs7 ?_; intro v8 w8 hown8 hbel8)
              have O8 := Lib.hid hown8
              have B8' := Lib.hid (B7.out.trans hbel8)
              have hs8 := B8'.out.size
              have hwm : w.heap.size ≤ wm.heap.size := Nat.le_trans hwl hsz
              have E8 := Lib.hid (E7.out.below (hbel8.mono hwm))
              have cp8 := (hbel8.cell (p := ⟨pb, po + t, none⟩) (Nat.lt_of_lt_of_le hpb hwm)).trans cp7
              clear hown8 hbel8 O7 B7 N7 Y7 E7 cp7 hs7
              go_wp2_with (at_builtin; refine append_many rfl (.tmp 74) (.tmp 78) 22 rfl wm.heap.size 5 .u8 1 Tryd.underlying22 info_u8 (by omega) v8 (L + 8) (rt lab cs j1 t ++ bytesOf il 8) rfl O8.out iA il ic ib rfl HTNt.out EIL.out.symm w.heap.size E8.out.nums (by omega) hs8 ?_; intro v9 w9 hown9 hbel9)
              go_roundw
              case rel => exact ⟨t + 1, L + 8 + il, by omega, by go_num, by rw [HRS.out]; exact hown9, B8'.out.trans hbel9⟩
              case measure => simp [intOf]; omega
            · as_aux_lemma =>
              obtain rfl : t = N := by omega
              have tN : decide ((t : Int) < (t : Int)) = false := by simp
              have hj4 := HJ4.out
              have C9 := Lib.hid (fun W A1 c1 => CT.out W j A1 (L + 2) c1 hj4)
              rw [← EJ.out] at C9
              rw [← hqj.out] at C9
              have RA1 := Lib.hid (RA.out j1)
              have KB1 := Lib.hid (KB.out j1 (by omega))
              have LTG : ((F.drop q).take 32).length = 32 := by simp; have := hqj.out; omega
              have BTG : Go.RowKit.Hid (∀ x, x ∈ (F.drop q).take 32 → x < 256) := Lib.hid (fun x hx => FB.out x (List.mem_of_mem_drop (List.mem_of_mem_take hx)))
              have FT := Lib.hid (take_more F q)
              have HR2 : Go.RowKit.Hid (q + 32 = 32 * (j + 1)) := Lib.hid (by have := hqj.out; omega)
              have hq32 : q + 32 ≤ 128 := by have := hqj.out; omega
              have y7 : Bys (wr.alloc (.cells #[.int .u8 0, .int .u8 (n : Int)] 5)) (wr.alloc (.cells #[.int .u8 0, .int .u8 (n : Int)] 5)).heap.size (some ⟨wr.heap.size, 0, none⟩) [0, n] := bys_of_holds (Holds.new wr 5 .u8 [0, n]) (fun x hx => by
                simp only [List.mem_cons, List.not_mem_nil, or_false] at hx
                omega)
              have b7 := below_alloc wr (.cells #[.int .u8 0, .int .u8 (n : Int)] 5)
              have Y7 := Lib.hid y7.nums
              have O7 := Lib.hid (owns_below HO6.out b7)
              have B7 := Lib.hid (HB6.out.trans (b7.mono hsz6))
              have hs7 := B7.out.size
              clear y7 b7 HO6 HP HT HTN RS RL RA R0 KB CP hj4 HJ4 CT
              generalize (F.drop q).take 32 = tg at *
              generalize rt lab cs j1 t = rl at *
              generalize kt lab cs n j1 = kl at *
              go_upto_region 27 with (at_builtin; refine append_many rfl (.tmp 80) (.tmp 87) 22 rfl wm.heap.size 5 .u8 1 Tryd.underlying22 info_u8 (by omega) _ L rl rfl O7.out (some ⟨wr.heap.size, 0, none⟩) 2 2 [0, n] rfl (fun h => by cases h) rfl _ Y7.out (by omega) hs7 ?_; intro v8 w8 hown8 hbel8)
              rw [RA1.out] at hown8
              obtain ⟨A8, c8, rfl, hA8, hc8, hl8, hy8⟩ := owns_any hown8 KB1.out
              have b8 := B7.out.trans hbel8
              have hwm : w.heap.size ≤ wm.heap.size := Nat.le_trans hwl hsz
              have BW8 := HB1.out.trans ((HB.out.mono hwl).trans (b8.mono hwm))
              have C10 := Lib.hid (C9.out w8 A8 c8 BW8 hl8 (by omega) hA8 hy8)
              have B8 := Lib.hid b8
              clear hown8 hbel8 hy8 hl8 hA8 hc8 b8 BW8 C9 O7 B7 Y7 hs7 RA1 KB1
              go_wp2_with fail
              refine C10.out.mono ?_
              rintro e w9 ⟨rfl, hB9⟩
              have C11 := Lib.hid (CL.out w9 tg LTG)
              have B9 := Lib.hid (B8.out.trans (hB9.mono B8.out.size))
              clear hB9 B8 C10
              go_wp2_with fail
              refine C11.out.mono ?_
              rintro e w10 ⟨v10, rfl, ho10, hB10⟩
              rw [LTG] at ho10
              obtain ⟨A10, c10, rfl, hA10, hc10, hl10, hy10⟩ := owns_any ho10 BTG.out
              have B10 := Lib.hid (B9.out.trans (hB10.mono B9.out.size))
              have O10 := Lib.hid (owns_below HO.out B10.out)
              have Y10 := Lib.hid hy10.nums
              have H10 := Lib.hid hA10
              have hs10 := Nat.le_trans hsz B10.out.size
              have BL := Lib.hid (HB.out.trans (B10.out.mono hsz))
              clear ho10 hB10 hy10 hA10 hc10 B9 C11
              go_wp2_with (at_builtin; refine append_many rfl (.tmp 89) (.tmp 93) 22 rfl wl.heap.size 5 .u8 1 Tryd.underlying22 info_u8 (by omega) (.slice A2 q c2) q (F.take q) rfl O10.out A10 32 c10 tg rfl H10.out hl10 w10.heap.size Y10.out (by omega) hs10 ?_; intro v11 w11 hown11 hbel11)
              go_roundw
              case rel => exact ⟨j + 1, q + 32, by have := HR2.out; omega, hq32, HR2, congrArg (Value.int .i64) (by have := EJ.out; omega), by rw [FT.out]; exact hown11, BL.out.trans hbel11⟩
              case measure => (have h1 := EJ.out; have h2 := HR2.out; simp [intOf]; omega)
        · as_aux_lemma =>
          have tt : decide ((q : Int) < (n : Int)) = false := by simp; omega
          have hnc : n ≤ c2 := by omega
          have hsl := fun W : World => run_cut_h A2 q c2 n hnc W
          have hyc := bys_cut hy2 c2 (by rw [List.length_take, FL]; omega) 0 n (Nat.zero_le _) (by rw [List.length_take, FL]; omega)
          rw [List.drop_zero, Nat.sub_zero, List.take_take, Nat.min_eq_left (by omega)] at hyc
          have HYC := Lib.hid hyc
          have BW := Lib.hid (HB1.out.trans (HB.out.mono HB1.out.size))
          clear hyc hy2 hA2
          go_wp2
          go_ret2
          exact ⟨_, _, rfl, hnc, HYC.out, BW.out⟩
end Go.Proofs.YtihpjkidoingfaaDoor
