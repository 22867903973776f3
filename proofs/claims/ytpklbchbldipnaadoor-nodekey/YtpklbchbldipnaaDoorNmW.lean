/- NodeMany: the walk. -/
import Derived.Test.YtpklbchbldipnaaDoorNAt
import Derived.Test.YtpklbchbldipnaaDoorNAl
import Derived.Deep.DeepCutAuto
namespace Go.Proofs.YtpklbchbldipnaaDoor
open Go.RowKit Go.Maps Classical

theorem arr_puts {g : Nat} {t : TypeId} : ∀ (ds cs : List Value) (k : Nat) (w : World), Arr w g t cs → Arr (w.setCells g k ds) g t (putsV cs k ds) ∧ w.grownBy (w.setCells g k ds) (some g)
  | [], cs, k, w, h => ⟨h, rfl, rfl, rfl, Nat.le_refl _, fun _ _ _ => rfl⟩
  | u :: ds, cs, k, w, h => by
    have a1 : Arr (w.setCell ⟨g, k, none⟩ u) g t (cs.set k u) := by
      have := heap_setCell_same w g k cs.toArray t u h
      rw [List.setIfInBounds_toArray] at this
      exact this
    obtain ⟨a2, b2⟩ := arr_puts ds (cs.set k u) (k + 1) _ a1
    exact ⟨a2, b2.os, b2.tape, b2.output, Nat.le_trans (by simp) b2.size, fun j hj hne => (b2.block j (by simpa using hj) hne).trans (heap_setCell_other w ⟨g, k, none⟩ j u (fun e => hne (by simp [e])))⟩
theorem arr_there {g : Nat} {t : TypeId} {cs : List Value} {w : World} (h : Arr w g t cs) {k m : Nat} (hk : k + m ≤ cs.length) : w.there g k m := by
  intro i hi
  refine ⟨?_, h.frozen _⟩
  rw [h.cell, List.getElem?_eq_getElem (by omega)]
  rfl
section
variable {ops : Array Oper} {rest : List Oper} {o : Oper} {a : Act} {Q : Exit → Act → World → Prop} {w : World} {K : Act → World → Prop} {E : Prop}
theorem yields_bld3 {S : World → Prop} (hw : Region.wanted o (yielded ops a.tmps) = true) (t : TypeId) (i j k : Nat) (x y z : Operand) (ho : o.op = .build t #[(i, x), (j, y), (k, z)]) {vx vy vz v : Value} (hx : a.eval x = vx) (hy : a.eval y = vy) (hz : a.eval z = vz) (hrun : ∀ W, (Instr.build t #[(i, vx), (j, vy), (k, vz)]).run Tryd.prog W = .ok v W) : YieldsIf Tryd.prog ops S o v a :=
  .inl ⟨hw, fun w _ => by
    unfold execOp
    simp only [ho, List.map_toArray, List.map_cons, List.map_nil, hx, hy, hz, Sem.run_bind, hrun w, Result.andThen_ok, Sem.run_pure]⟩
theorem wpList_bld0 (hw : Region.wanted o (yielded ops a.tmps) = true) (t : TypeId) (ho : o.op = .build t #[]) {u : Value} (hrun : ∀ W, (Instr.build t #[]).run Tryd.prog W = .ok u W)
    (hk : wpList Tryd.prog ops Q rest (a.put o.dst u) w) : wpList Tryd.prog ops Q (o :: rest) a w :=
  wpList_on hw fun _ hK => by
    unfold Oper.wp execOp
    simp only [ho, List.map_toArray, List.map_nil, Sem.run_bind, hrun w, Result.andThen_ok, Sem.run_pure]
    exact hK _ _ hk
theorem step_allocZ (hw : Region.wanted o (yielded ops a.tmps) = true) (t : TypeId) (ho : o.op = .alloc t) {z : List Value} {n b : Nat} (hi : (Tryd.prog.info? t).map (fun i => (i.zero, i.size, i.bytes)) = some (some (.agg z.toArray), n, b))
    (hk : K (a.put o.dst (.pointer (some ⟨w.heap.size, 0, none⟩))) (w.alloc (.cells z.toArray t))) : if Region.wanted o (yielded ops a.tmps) = true then Oper.wp Tryd.prog o a w K Q else E := by
  refine step_run hw ?_ hk
  have := alloc_zero hi w
  unfold execOp
  simp only [ho, Sem.run_bind, this, Result.andThen_ok, Sem.run_pure]
theorem step_putArr (hw : Region.wanted o (yielded ops a.tmps) = true) (x y : Operand) (t : TypeId) (ho : o.op = .store t x y) {g : Nat} {t0 : TypeId} {cs ds : List Value} (hx : a.eval x = .pointer (some ⟨g, 0, none⟩)) (hy : a.eval y = .agg ds.toArray) (h : Arr w g t0 cs) (hi : (Tryd.prog.info? t).map (·.size) = some ds.length) (hl : cs.length = ds.length) (h1 : ∀ u ∈ ds, u.oneCell' = true)
    (hk : ∀ w', Arr w' g t0 ds → w.grownBy w' (some g) → K (a.put o.dst undef) w') : if Region.wanted o (yielded ops a.tmps) = true then Oper.wp Tryd.prog o a w K Q else E := by
  rw [if_pos hw]
  obtain ⟨a1, b1⟩ := arr_puts ds cs 0 w h
  rw [putsV_all ds cs hl.symm] at a1
  exact wp_store_mid t x y ho g 0 ds.toArray hx hy (arr_there h (by simp [hl])) (by simpa using hi) (all_oneCell_toArray h1) (hk _ (by simpa using a1) (by simpa using b1))
theorem wpList_putMid (hgd : o.guard = none) (x y : Operand) (t : TypeId) (ho : o.op = .store t x y) {g k : Nat} {t0 : TypeId} {cs ds : List Value} (hx : a.eval x = .pointer (some ⟨g, k, none⟩)) (hy : a.eval y = .agg ds.toArray) (h : Arr w g t0 cs) (hi : (Tryd.prog.info? t).map (·.size) = some ds.length) (hl : k + ds.length ≤ cs.length) (h1 : ∀ u ∈ ds, u.oneCell' = true)
    (hk : ∀ w', Arr w' g t0 (putsV cs k ds) → w.grownBy w' (some g) → wpList Tryd.prog ops Q rest (a.put o.dst undef) w') : wpList Tryd.prog ops Q (o :: rest) a w := by
  obtain ⟨a1, b1⟩ := arr_puts ds cs k w h
  exact wpList_store_mid hgd t x y ho g k ds.toArray hx hy (arr_there h (by simpa using hl)) (by simpa using hi) (all_oneCell_toArray h1) (hk _ (by simpa using a1) (by simpa using b1))
end
/-- What a new block's change leaves. -/
theorem below_grown {B g : Nat} {a w w' : World} (h : Below B a w) (hg : w.grownBy w' (some g)) (hB : B ≤ w.heap.size) (hb : B ≤ g) : Below B a w' :=
  h.grown hg hB (fun j hj => by injection hj with hj; omega)
def kk (x y : Int) : List Int := x :: y :: List.replicate 30 0
theorem bKk (x y : Int) (W : World) : (Instr.build 31 #[(0, .int .u8 x), (1, .int .u8 y)]).run Tryd.prog W = .ok (.agg ((kk x y).map (Value.int .u8)).toArray) W := by kernel_rfl
theorem bRk (x y f n : Int) (W : World) : (Instr.build 50 #[(0, .agg ((kk x y).map (Value.int .u8)).toArray), (1, .int .i64 f), (2, .int .i64 n)]).run Tryd.prog W = .ok (.agg (rfV (kk x y) f n).toArray) W := by kernel_rfl
theorem bEk (s : ByteArray) (x y f n : Int) (W : World) : (Instr.build 52 #[(0, .string s), (2, .agg ((kk x y).map (Value.int .u8)).toArray), (3, .agg (rfV (kk x y) f n).toArray)]).run Tryd.prog W = .ok (.agg (Value.string s :: .bool false :: ((kk x y).map (Value.int .u8) ++ rfV (kk x y) f n)).toArray) W := by kernel_rfl
theorem bK0 (W : World) : (Instr.build 31 #[]).run Tryd.prog W = .ok (.agg z32.toArray) W := by kernel_rfl
theorem z32_one : ∀ u ∈ z32, u.oneCell' = true := by rw [z32_zK]; exact u8_one _
theorem put_z32 {e : Ent} (h : EntOk e) : putsV (enV e) 34 z32 = enV { e with hash := List.replicate 32 0 } := by
  have h1 := putsV_app z32 (.string (mkS e.nm) :: .bool e.dir :: e.key.map (Value.int .u8)) (e.hash.map (Value.int .u8)) [.int .i64 e.fi, .int .i64 e.ln] 0 (by rw [z32_len, List.length_map, h.hash.1]; omega)
  have hl : (Value.string (mkS e.nm) :: .bool e.dir :: e.key.map (Value.int .u8)).length = 34 := by simp [h.key.1]
  rw [hl, putsV_all _ _ (by rw [z32_len, List.length_map, h.hash.1])] at h1
  refine h1.trans ?_
  rw [z32_zK]
  rfl
theorem e0_ok (i : Nat) (b : Bool) : EntOk ⟨nthL i, b, manyK i, manyK i, i, i⟩ := ⟨nthL_byt i, ⟨manyK_len i, manyK_byt i⟩, ⟨manyK_len i, manyK_byt i⟩⟩
theorem manyK_kk (i : Nat) : manyK i = kk ((i % 256 : Nat) : Int) ((i / 256 % 256 : Nat) : Int) := rfl
theorem nth_enter (v : Value) (W : World) : (callFunc 25 #[v]).run Tryd.prog W = .ok (.enter 25 #[v]) W := by kernel_rfl
set_option maxRecDepth 100000 in
set_option maxHeartbeats 2000000 in
theorem nth_calls {i : Nat} (hi : i ≤ 1027) (w : World) : Calls Tryd.prog 25 #[.int .i64 (i : Int)] w fun e w' => e = .returned (.string (mkS (nthL i))) ∧ Below w.heap.size w w' := by
  have HB := nthL_byt i
  unfold nthL at HB ⊢
  have q1 : (i : Int).tdiv 676 = ((i / 676 : Nat) : Int) := by rw [Int.tdiv_eq_ediv_of_nonneg (by omega)]; omega
  have q2 : (i : Int).tdiv 26 = ((i / 26 : Nat) : Int) := by rw [Int.tdiv_eq_ediv_of_nonneg (by omega)]; omega
  have m1 : ((i / 676 : Nat) : Int).tmod 26 = ((i / 676 % 26 : Nat) : Int) := by rw [Int.tmod_eq_emod_of_nonneg (by omega)]; omega
  have m2 : ((i / 26 : Nat) : Int).tmod 26 = ((i / 26 % 26 : Nat) : Int) := by rw [Int.tmod_eq_emod_of_nonneg (by omega)]; omega
  have m3 : (i : Int).tmod 26 = ((i % 26 : Nat) : Int) := by rw [Int.tmod_eq_emod_of_nonneg (by omega)]; omega
  have l1 : i / 676 % 26 < 26 := by omega
  have l2 : i / 26 % 26 < 26 := by omega
  have l3 : i % 26 < 26 := by omega
  have l4 : i / 676 ≤ 1027 := by omega
  have l5 : i / 26 ≤ 1027 := by omega
  generalize i / 676 % 26 = x at *
  generalize i / 26 % 26 = y at *
  generalize i % 26 = z at *
  generalize i / 676 = p at *
  generalize i / 26 = q at *
  have hcv := conv_isB (isB_lit w [97 + (x : Int), 97 + (y : Int), 97 + (z : Int)] HB (by simp))
  have hbl := lit_blw w (.cells ([97 + (x : Int), 97 + (y : Int), 97 + (z : Int)].map (Value.int .u8)).toArray 5)
  simp only [List.map_cons, List.map_nil, List.length_cons, List.length_nil] at hcv hbl
  have HBL := hide hbl
  clear hbl
  clear HB
  go_enter Tryd.func25, Tryd.ntmps25
  go_wp2
  go_ret
  exact ⟨rfl, HBL.out⟩

set_option maxRecDepth 100000 in
set_option maxHeartbeats 4000000 in
theorem nodeMany_walk {w : World} {n d : Int} (hn : -9223372036854775808 ≤ n ∧ n ≤ 9223372036854775807) (hd : -9223372036854775808 ≤ d ∧ d ≤ 9223372036854775807) (hT : Tabs w) : Calls Tryd.prog 5 #[.int .i64 n, .int .i64 d] w fun e w' => e = .returned (.bool true) ∧ Below w.heap.size w w' := by
  have HN := hide hn
  have HD := hide hd
  have HT : Hid (∀ W, Below w.heap.size w W → Tabs W) := fun W hW => hT.below hW
  clear hn hd hT
  go_enter Tryd.func5, Tryd.ntmps5
  go_upto_region 1 with fail
  go_cut [24] (fun v wc => v = .bool (decide (n < 0) || decide (n > 1027)) ∧ w = wc)
  case first =>
    by_cases h0 : n < 0
    · go_wp2
      go_meet
      exact ⟨by simp [h0], rfl⟩
    · by_cases h1 : n > 1027
      · have h2 : n > 1027 := h1
        go_wp2
        go_meet
        exact ⟨by simp [h1], rfl⟩
      · go_wp2
        go_meet
        exact ⟨by simp [h0]; omega, rfl⟩
  obtain ⟨rfl, rfl⟩ := hcut
  go_upto_if 24 with fail
  go_cut [0] (fun v wc => ∃ N : Nat, v = .int .i64 (N : Int) ∧ N ≤ 1027 ∧ w = wc)
  case first =>
    by_cases h0 : n < 0
    · have h3 : (decide (n < 0) || decide (n > 1027)) = true := by simp [h0]
      go_wp2
      go_meet
      exact ⟨1024, rfl, by omega, rfl⟩
    · by_cases h1 : n > 1027
      · have h3 : (decide (n < 0) || decide (n > 1027)) = true := by simp [h1]
        go_wp2
        go_meet
        exact ⟨1024, rfl, by omega, rfl⟩
      · obtain ⟨N, rfl⟩ := Int.eq_ofNat_of_zero_le (show 0 ≤ n by omega)
        have h3 : (decide ((N : Int) < 0) || decide ((N : Int) > 1027)) = false := by simp; omega
        go_wp2
        go_meet
        exact ⟨N, rfl, by omega, rfl⟩
  case rest =>
    obtain ⟨N, rfl, hN, rfl⟩ := hcut
    clear HN
    go_wp2_with fail
    go_loopw [5, 6] (fun lv iv wr => ∃ i : Nat, i ≤ N ∧ iv = .int .i64 (i : Int) ∧ Hid (OwnE wr w.heap.size lv (manyL d i) ∧ Below w.heap.size w wr)) (fun _ iv _ => N - (intOf iv).toNat)
    case atStart => exact ⟨0, by omega, rfl, OwnE.nil _ _, Below.refl _ _⟩
    case round =>
      obtain ⟨i, hi, rfl, HL⟩ := hrel
      by_cases hlt : i < N
      · have hltI : (i : Int) < (N : Int) := by omega
        have q1 : (i : Int).tdiv 256 = ((i / 256 : Nat) : Int) := by rw [Int.tdiv_eq_ediv_of_nonneg (by omega)]; omega
        have q2 : i / 256 ≤ 4 := by omega
        obtain ⟨p, hp⟩ : ∃ p, i / 256 = p := ⟨_, rfl⟩
        rw [hp] at q1 q2
        have HKX : Hid (kk ((i : Int) % 256) (p : Int) = manyK i) := by
          show _ = _
          rw [manyK_kk, ← hp]
          congr 1
          omega
        have HPP := hide hp
        clear hp
        have hkl : (kk ((i : Int) % 256) (p : Int)).length = 32 := by rw [HKX.out]; exact manyK_len i
        have HIK := hide (infoKof hkl)
        have HZK : Hid (z32.length = ((kk ((i : Int) % 256) (p : Int)).map (Value.int .u8)).length) := by show _ = _; rw [z32_len, List.length_map, hkl]
        obtain ⟨KV, hKV⟩ : ∃ KV, (kk ((i : Int) % 256) (p : Int)).map (Value.int .u8) = KV := ⟨_, rfl⟩
        have HB7 : Hid (∀ W, (Instr.build 31 #[(0, .int .u8 ((i : Int) % 256)), (1, .int .u8 (p : Int))]).run Tryd.prog W = .ok (.agg KV.toArray) W) := by rw [← hKV]; exact bKk _ p
        have HB42 : Hid (∀ W, (Instr.build 50 #[(0, .agg KV.toArray), (1, .int .i64 (i : Int)), (2, .int .i64 (i : Int))]).run Tryd.prog W = .ok (.agg (rfV (kk ((i : Int) % 256) (p : Int)) i i).toArray) W) := by rw [← hKV]; exact bRk _ p i i
        have HB43 : Hid (∀ W, (Instr.build 52 #[(0, .string (mkS (nthL i))), (2, .agg KV.toArray), (3, .agg (rfV (kk ((i : Int) % 256) (p : Int)) i i).toArray)]).run Tryd.prog W = .ok (.agg (Value.string (mkS (nthL i)) :: .bool false :: (KV ++ rfV (kk ((i : Int) % 256) (p : Int)) i i)).toArray) W) := by rw [← hKV]; exact bEk _ _ p i i
        have HU8 : Hid (∀ u ∈ KV, u.oneCell' = true) := by rw [← hKV]; exact u8_one _
        rw [hKV] at HIK HZK
        have HKV := hide hKV
        have HRV : Hid ((rfV (kk ((i : Int) % 256) (p : Int)) i i).length = 34) := rfV_len hkl
        have HRO : Hid (∀ u ∈ rfV (kk ((i : Int) % 256) (p : Int)) i i, u.oneCell' = true) := rfV_one _ _ _
        obtain ⟨RV, hRV⟩ : ∃ RV, rfV (kk ((i : Int) % 256) (p : Int)) i i = RV := ⟨_, rfl⟩
        rw [hRV] at HB42 HB43 HRV HRO
        have HRVE := hide hRV
        clear hRV
        clear hkl hKV
        go_upto_region 8 with (first
          | (refine wpList_bld2 rfl 31 0 1 (.tmp 31) (.tmp 34) rfl (v := .int .u8 ((i : Int) % 256)) (v2 := .int .u8 (p : Int)) (u := .agg KV.toArray) rfl rfl HB7.out ?_)
          | (refine wpList_allocZ rfl 31 rfl infoK ?_)
          | (refine wpList_storeArr2 (cs' := KV) rfl (.tmp 7) (.tmp 35) 31 rfl rfl rfl (Arr.new wr z32 31) HIK.out HZK.out HU8.out ?_; intro w2 hA2 hw2))
        have hb2 : Below wr.heap.size wr w2 := hw2.below _ _ (lit_blw _ _) (Nat.le_refl _)
        obtain ⟨gk, hgk⟩ : ∃ gk, gk = wr.heap.size := ⟨_, rfl⟩
        rw [← hgk] at hA2
        have HS8 : Hid (∀ W, Below w2.heap.size w2 W → W.rangeAt gk 0 KV) := fun W hW => (hA2.below hW).range
        have HNT : Hid (∀ W : World, Calls Tryd.prog 25 #[.int .i64 (i : Int)] W fun e w' => e = .returned (.string (mkS (nthL i))) ∧ Below W.heap.size W w') := fun W => nth_calls (by omega) W
        obtain ⟨st, hst⟩ : ∃ st, mkS (nthL i) = st := ⟨_, rfl⟩
        rw [hst] at HNT HB43
        have HST := hide hst
        obtain ⟨EV, hEV⟩ : ∃ EV, Value.string st :: .bool false :: (KV ++ RV) = EV := ⟨_, rfl⟩
        rw [hEV] at HB43
        have HEV := hide hEV
        have HEL : Hid (EV.length = 68) := by
          show _ = _
          rw [← hEV]
          have h1 := HIK.out
          rw [infoKz] at h1
          have h2 := Option.some.inj h1
          simp only [List.length_cons, List.length_append, ← h2, HRV.out]
        have HEO : Hid (∀ u ∈ EV, u.oneCell' = true) := by
          intro u hu
          rw [← hEV] at hu
          simp only [List.mem_cons, List.mem_append] at hu
          rcases hu with rfl | rfl | hu | hu
          · rfl
          · rfl
          · exact HU8.out u hu
          · exact HRO.out u hu
        have HIE : Hid ((Tryd.prog.info? 52).map (·.size) = some EV.length) := by show _ = _; rw [HEL.out]; exact infoEz
        have HZE : Hid (z68.length = EV.length) := by show _ = _; rw [HEL.out]; exact z68_len
        have HB2 := hide hb2
        have HGK := hide hgk
        clear hA2 hw2 hgk hst hEV hb2
        simp only [Act.put, List.setIfInBounds_toArray, List.set_cons_succ, List.set_cons_zero]
        go_cut [8] from 25 to 59 (fun v wc => ∃ g, v = .pointer (some ⟨g, 0, none⟩) ∧ Hid (w2.heap.size ≤ g ∧ Arr wc g 52 EV ∧ Below w2.heap.size w2 wc))
        case first =>
          rw [← HGK.out]
          refine wp_region_held_drew (S := fun W => W.rangeAt gk 0 KV) (by kernel_rfl) (unhide HS8 _ (Below.refl _ _).drew) (fun hHeld => ?_)
          refine wpAnyH_take (i := 0) (v := .int .i64 (i : Int)) rfl (by kernel_rfl) (by kernel_rfl) (by kernel_rfl) (fun _ _ _ h => h) (Or.inl ⟨by rfl, fun w hSw => by go_simp⟩) (by assumption) ?_
          simp only [List.getElem_toArray, List.getElem_cons_zero, Act.put, List.setIfInBounds_toArray, List.set_cons_zero, List.set_cons_succ]
          refine wpAnyH_take (i := 2) (v := .agg (KV).toArray) rfl (by kernel_rfl) (by kernel_rfl) (by kernel_rfl) (fun _ _ _ h => h) (yieldsIf_load_mid (by rfl) _ _ rfl _ _ rfl _ _ (fun w hSw => hSw) Tryd.underlying31 rfl HIK.out) (by assumption) ?_
          simp only [List.getElem_toArray, List.getElem_cons_succ, List.getElem_cons_zero, Act.put, List.setIfInBounds_toArray, List.set_cons_zero, List.set_cons_succ]
          refine wpAnyH_take (i := 3) (v := .agg (KV).toArray) rfl (by kernel_rfl) (by kernel_rfl) (by kernel_rfl) (fun _ _ _ h => h) (yieldsIf_load_mid (by rfl) _ _ rfl _ _ rfl _ _ (fun w hSw => hSw) Tryd.underlying31 rfl HIK.out) (by assumption) ?_
          simp only [List.getElem_toArray, List.getElem_cons_succ, List.getElem_cons_zero, Act.put, List.setIfInBounds_toArray, List.set_cons_zero, List.set_cons_succ]
          refine wpAnyH_take (i := 4) (v := .int .i64 (i : Int)) rfl (by kernel_rfl) (by kernel_rfl) (by kernel_rfl) (fun _ _ _ h => h) (Or.inl ⟨by rfl, fun w hSw => by go_simp⟩) (by assumption) ?_
          simp only [List.getElem_toArray, List.getElem_cons_succ, List.getElem_cons_zero, Act.put, List.setIfInBounds_toArray, List.set_cons_zero, List.set_cons_succ]
          refine wpAnyH_take (i := 5) (v := .int .i64 (i : Int)) rfl (by kernel_rfl) (by kernel_rfl) (by kernel_rfl) (fun _ _ _ h => h) (Or.inl ⟨by rfl, fun w hSw => by go_simp⟩) (by assumption) ?_
          simp only [List.getElem_toArray, List.getElem_cons_succ, List.getElem_cons_zero, Act.put, List.setIfInBounds_toArray, List.set_cons_zero, List.set_cons_succ]
          refine wpAnyH_take (i := 6) (v := .agg RV.toArray) rfl (by kernel_rfl) (by kernel_rfl) (by kernel_rfl) (fun _ _ _ h => h) (yields_bld3 (by rfl) 50 0 1 2 (.tmp 39) (.tmp 40) (.tmp 41) rfl rfl rfl rfl HB42.out) (by assumption) ?_
          simp only [List.getElem_toArray, List.getElem_cons_succ, List.getElem_cons_zero, Act.put, List.setIfInBounds_toArray, List.set_cons_zero, List.set_cons_succ]
          refine wpAnyH_ready (rs := [1, 8]) (by kernel_rfl) (by simp) (AllReadyH.cons rfl (fun K hK => ?_) (AllReadyH.cons rfl (fun K hK => ?_) AllReadyH.nil))
          · refine step_call1GC (by rfl) 25 nth_enter (.tmp 36) _ rfl rfl (unhide HNT _) ?_
            rintro e w3 ⟨rfl, hcw3⟩
            have hb3 : Below w2.heap.size w2 w3 := below_then (Below.refl w2.heap.size w2).drew hcw3
            refine ⟨_, rfl, ?_⟩
            refine hK.out _ _ (unhide HS8 _ hb3) (fun hH3 => ?_)
            clear hK K
            simp only [List.getElem_toArray, List.getElem_cons_succ, List.getElem_cons_zero, Act.put, List.setIfInBounds_toArray, List.set_cons_zero, List.set_cons_succ]
            refine wpAnyH_take (i := 7) (v := .agg EV.toArray) rfl (by kernel_rfl) (by kernel_rfl) (by kernel_rfl) (fun _ _ _ h => h) (yields_bld3 (by rfl) 52 0 2 3 (.tmp 37) (.tmp 38) (.tmp 42) rfl rfl rfl rfl HB43.out) (by assumption) ?_
            simp only [List.getElem_toArray, List.getElem_cons_succ, List.getElem_cons_zero, Act.put, List.setIfInBounds_toArray, List.set_cons_zero, List.set_cons_succ]
            refine wpAnyH_ready (rs := [8]) (by kernel_rfl) (by simp) (AllReadyH.cons rfl (fun K hK => ?_) AllReadyH.nil)
            refine step_allocZ (by rfl) 52 rfl infoEn ?_
            have hNhH4 := Arr.new w3 z68 52
            have hb4 : Below w2.heap.size w2 (w3.alloc (.cells z68.toArray 52)) := below_then hb3 (lit_blw _ _)
            refine hK.out _ _ (unhide HS8 _ hb4) (fun hH4 => ?_)
            clear hK K
            simp only [List.getElem_toArray, List.getElem_cons_succ, List.getElem_cons_zero, Act.put, List.setIfInBounds_toArray, List.set_cons_zero, List.set_cons_succ]
            refine wpAnyH_ready (rs := [9]) (by kernel_rfl) (by simp) (AllReadyH.cons rfl (fun K hK => ?_) AllReadyH.nil)
            refine step_putArr (by rfl) (.tmp 8) (.tmp 43) 52 rfl rfl rfl hNhH4 HIE.out HZE.out HEO.out ?_
            intro w9 hA9 hg9
            have hb9 : Below w2.heap.size w2 w9 := below_grown hb4 hg9 (hb4).size hb3.size
            refine hK.out _ _ (unhide HS8 _ hb9) (fun hH5 => ?_)
            clear hK K
            simp only [List.getElem_toArray, List.getElem_cons_succ, List.getElem_cons_zero, Act.put]
            refine wpAnyH_done (by kernel_rfl) ?_ _
            go_wp2
            rw [HGK.out]
            go_meet
            exact ⟨_, rfl, hb3.size, hA9, hb9⟩
          · refine step_allocZ (by rfl) 52 rfl infoEn ?_
            have hNhH3 := Arr.new w2.drew z68 52
            have hb3 : Below w2.heap.size w2 (w2.drew.alloc (.cells z68.toArray 52)) := below_then (Below.refl w2.heap.size w2).drew (lit_blw _ _)
            refine hK.out _ _ (unhide HS8 _ hb3) (fun hH3 => ?_)
            clear hK K
            simp only [List.getElem_toArray, List.getElem_cons_succ, List.getElem_cons_zero, Act.put, List.setIfInBounds_toArray, List.set_cons_zero, List.set_cons_succ]
            refine wpAnyH_ready (rs := [1]) (by kernel_rfl) (by simp) (AllReadyH.cons rfl (fun K hK => ?_) AllReadyH.nil)
            refine step_call1GC (by rfl) 25 nth_enter (.tmp 36) _ rfl rfl (unhide HNT _) ?_
            rintro e w4 ⟨rfl, hcw4⟩
            have hb4 : Below w2.heap.size w2 w4 := below_then hb3 hcw4
            refine ⟨_, rfl, ?_⟩
            refine hK.out _ _ (unhide HS8 _ hb4) (fun hH4 => ?_)
            clear hK K
            simp only [List.getElem_toArray, List.getElem_cons_succ, List.getElem_cons_zero, Act.put, List.setIfInBounds_toArray, List.set_cons_zero, List.set_cons_succ]
            refine wpAnyH_take (i := 7) (v := .agg EV.toArray) rfl (by kernel_rfl) (by kernel_rfl) (by kernel_rfl) (fun _ _ _ h => h) (yields_bld3 (by rfl) 52 0 2 3 (.tmp 37) (.tmp 38) (.tmp 42) rfl rfl rfl rfl HB43.out) (by assumption) ?_
            simp only [List.getElem_toArray, List.getElem_cons_succ, List.getElem_cons_zero, Act.put, List.setIfInBounds_toArray, List.set_cons_zero, List.set_cons_succ]
            refine wpAnyH_ready (rs := [9]) (by kernel_rfl) (by simp) (AllReadyH.cons rfl (fun K hK => ?_) AllReadyH.nil)
            refine step_putArr (by rfl) (.tmp 8) (.tmp 43) 52 rfl rfl rfl (hNhH3.below hcw4) HIE.out HZE.out HEO.out ?_
            intro w9 hA9 hg9
            have hb9 : Below w2.heap.size w2 w9 := below_grown hb4 hg9 (hb4).size (Nat.le_refl _)
            refine hK.out _ _ (unhide HS8 _ hb9) (fun hH5 => ?_)
            clear hK K
            simp only [List.getElem_toArray, List.getElem_cons_succ, List.getElem_cons_zero, Act.put]
            refine wpAnyH_done (by kernel_rfl) ?_ _
            go_wp2
            rw [HGK.out]
            go_meet
            exact ⟨_, rfl, Nat.le_refl _, hA9, hb9⟩
        case rest =>
          obtain ⟨g, rfl, HG⟩ := hcut
          obtain ⟨hg0, hA0, hb0⟩ := HG.out
          obtain ⟨hL0, hbL⟩ := HL.out
          have hbr : Below wr.heap.size wr wc := HB2.out.trans (hb0.mono HB2.out.size)
          have hLc := hL0.below hbr
          have HBC : Hid (Below w.heap.size w wc) := hbL.trans (hbr.mono hbL.size)
          have HWG : Hid (w.heap.size ≤ g) := Nat.le_trans hbL.size (Nat.le_trans HB2.out.size hg0)
          have HE0 : Hid (EV = enV ⟨nthL i, false, manyK i, manyK i, i, i⟩) := by
            show _ = _
            rw [← HEV.out, ← HKV.out, ← HRVE.out, ← HST.out, HKX.out]
            rfl
          have HOK : Hid (EnOk (manyE d i)) := ⟨manyE_ok d i, by show (nthL i).length ≤ _; unfold nthL; simp, by show _ ∧ _; constructor <;> (show _ ≤ _; unfold manyE; simp only; omega), by show _ ∧ _; constructor <;> (show _ ≤ _; unfold manyE; simp only; omega)⟩
          have HNE : Hid (u5.ownBlock = none ∨ u5.ownBlock ≠ some g) := by
            cases hu : u5.ownBlock with
            | none => exact Or.inl rfl
            | some b =>
              have := (hL0.2.lt b hu).2
              exact Or.inr (fun e => by injection e with e; have := HB2.out.size; omega)
          have HLC := hide hLc
          have HA0 := hide hA0
          clear HB43 HB42 HB7 HNT HIK HZK HS8 HB2 HGK HKV HU8 HRV HRO HRVE HST HEV HKX HPP hL0 hbL hbr hLc hA0 hb0 HG HL
          by_cases hd0 : 0 < d
          · have hdz : ¬ d = 0 := by omega
            have hdg : d > 0 := hd0
            have hnn := Int.emod_nonneg (i : Int) hdz
            have hll := Int.emod_lt_of_pos (i : Int) hd0
            have htm : (i : Int).tmod d = (i : Int) % d := Int.tmod_eq_emod_of_nonneg (by omega)
            obtain ⟨q, hq⟩ : ∃ q, (i : Int) % d = q := ⟨_, rfl⟩
            rw [hq] at htm hnn hll
            obtain ⟨hd1, hd2⟩ := HD.out
            have hqw : IntKind.i64.wrap q = q := IntWalk.i64_in _ (by omega)
            by_cases hq0 : q = 0
            · have HME : Hid (manyE d i = ⟨nthL i, true, manyK i, List.replicate 32 0, i, i⟩) := by
                have : dirB d i = true := by unfold dirB; rw [hq, hq0]; simp [hd0]
                show _ = _
                unfold manyE
                rw [this]
                rfl
              subst hq0
              have h1 := HA0.out
              rw [HE0.out] at h1
              have hc1 : wc.cell? ⟨g, 1, none⟩ = some (.bool false) := by rw [h1.cell]; rfl
              have hf1 := h1.frozen 1
              obtain ⟨h2, hg2⟩ := arr_puts [.bool true] _ 1 wc h1
              rw [put_dir] at h2
              have HA1 : Hid (Arr (wc.setCell ⟨g, 1, none⟩ (.bool true)) g 52 (enV ⟨nthL i, true, manyK i, manyK i, i, i⟩)) := h2
              have HG2 : Hid (wc.grownBy (wc.setCell ⟨g, 1, none⟩ (.bool true)) (some g)) := hg2
              clear h1 h2 hg2 hq hnn hll hd1 hd2
              go_upto_region 11 with fail
              generalize wc.setCell ⟨g, 1, none⟩ (.bool true) = w3 at *
              have HZ : Hid (putsV (enV ⟨nthL i, true, manyK i, manyK i, i, i⟩) 34 z32 = enV (manyE d i)) := by
                show _ = _
                rw [put_z32 (e0_ok i true), HME.out]
              have HB3 := hide (below_grown HBC.out HG2.out HBC.out.size HWG.out)
              have HL3 : Hid (OwnE w3 w.heap.size u5 (manyL d i)) := HLC.out.kept HG2.out HNE.out
              go_upto_region 12 with (first
                | (refine wpList_bld0 rfl 31 rfl bK0 ?_)
                | (refine wpList_putMid rfl (.tmp 55) (.tmp 53) 31 rfl (g := g) (k := 34) (ds := z32) rfl rfl HA1.out (by rw [z32_len]; exact infoKz) (by rw [enV_len (e0_ok i true), z32_len]; omega) z32_one ?_; intro w4 hA4 hg4))
              rw [HZ.out] at hA4
              have HB4 := hide (below_grown HB3.out hg4 HB3.out.size HWG.out)
              have HL4 : Hid (OwnE w4 w.heap.size u5 (manyL d i)) := HL3.out.kept hg4 HNE.out
              have HA4 := hide hA4
              clear hA4 hg4 HL3 HB3 HA1 HG2 HZ HME hc1 hf1
              have HEL5 : Hid ((enV (manyE d i)).length = 68) := enV_len (manyE_ok d i)
              have HL5 : Hid (OwnE (w4.alloc (.cells (enV (manyE d i)).toArray 52)) w.heap.size u5 (manyL d i)) := HL4.out.below (lit_blw _ _)
              have HO5 := hide (isEn_one w4 (manyE d i) HOK.out)
              have HI5 : Hid ((Tryd.prog.info? 52).map (·.size) = some (enV (manyE d i)).length) := infoEof (manyE_ok d i)
              have HS5 : Hid (w.heap.size ≤ (w4.alloc (.cells (enV (manyE d i)).toArray 52)).heap.size) := Nat.le_trans HB4.out.size (lit_blw _ _).size
              have HB5 : Hid (Below w.heap.size w (w4.alloc (.cells (enV (manyE d i)).toArray 52))) := below_then HB4.out (lit_blw _ _)
              have HML := hide (manyL_len d i)
              have HR5 := hide HA4.out.range
              have HSU := hide (manyL_succ d i)
              generalize manyE d i = en at *
              generalize manyL d i = ml at *
              go_wp2_with (first
                | (refine wpList_load_on rfl 52 (.tmp 8) rfl g 0 rfl (enV en) _ HR5.out Tryd.underlying52 rfl HI5.out ?_)
                | (refine wpList_buildEn rfl (.tmp 57) rfl rfl HEL5.out ?_)
                | (at_builtin; refine wpList_appEn rfl (.tmp 56) (.tmp 58) rfl rfl HL5.out rfl HO5.out (by rw [HML.out]; simp; omega) HS5.out ?_; intro v7 w7 ho7 hg7 hvb7))
              have HB7 := hide (below_app HB5.out hg7 HS5.out hvb7)
              rw [← HSU.out] at ho7
              have HO7 := hide ho7
              clear ho7 hg7 hvb7
              go_roundw
              case rel => exact ⟨i + 1, by omega, by go_num, HO7.out, HB7.out⟩
              case measure => simp [intOf]; omega
            · have hqf : (q == 0) = false := by simpa using hq0
              have HME : Hid (manyE d i = ⟨nthL i, false, manyK i, manyK i, i, i⟩) := by
                have : dirB d i = false := by unfold dirB; rw [hq]; simp [hq0]
                show _ = _
                unfold manyE
                rw [this]
                rfl
              have HA4 : Hid (Arr wc g 52 (enV (manyE d i))) := by
                have := HA0.out
                rw [HE0.out, ← HME.out] at this
                exact this
              clear hq hnn hll hd1 hd2 HME
              go_upto_region 12 with fail
              have HEL5 : Hid ((enV (manyE d i)).length = 68) := enV_len (manyE_ok d i)
              have HL5 : Hid (OwnE (wc.alloc (.cells (enV (manyE d i)).toArray 52)) w.heap.size u5 (manyL d i)) := HLC.out.below (lit_blw _ _)
              have HO5 := hide (isEn_one wc (manyE d i) HOK.out)
              have HI5 : Hid ((Tryd.prog.info? 52).map (·.size) = some (enV (manyE d i)).length) := infoEof (manyE_ok d i)
              have HS5 : Hid (w.heap.size ≤ (wc.alloc (.cells (enV (manyE d i)).toArray 52)).heap.size) := Nat.le_trans HBC.out.size (lit_blw _ _).size
              have HB5 : Hid (Below w.heap.size w (wc.alloc (.cells (enV (manyE d i)).toArray 52))) := below_then HBC.out (lit_blw _ _)
              have HML := hide (manyL_len d i)
              have HR5 := hide HA4.out.range
              have HSU := hide (manyL_succ d i)
              generalize manyE d i = en at *
              generalize manyL d i = ml at *
              go_wp2_with (first
                | (refine wpList_load_on rfl 52 (.tmp 8) rfl g 0 rfl (enV en) _ HR5.out Tryd.underlying52 rfl HI5.out ?_)
                | (refine wpList_buildEn rfl (.tmp 57) rfl rfl HEL5.out ?_)
                | (at_builtin; refine wpList_appEn rfl (.tmp 56) (.tmp 58) rfl rfl HL5.out rfl HO5.out (by rw [HML.out]; simp; omega) HS5.out ?_; intro v7 w7 ho7 hg7 hvb7))
              have HB7 := hide (below_app HB5.out hg7 HS5.out hvb7)
              rw [← HSU.out] at ho7
              have HO7 := hide ho7
              clear ho7 hg7 hvb7
              go_roundw
              case rel => exact ⟨i + 1, by omega, by go_num, HO7.out, HB7.out⟩
              case measure => simp [intOf]; omega
          · have hdg : ¬ d > 0 := hd0
            have HME : Hid (manyE d i = ⟨nthL i, false, manyK i, manyK i, i, i⟩) := by
              have : dirB d i = false := by unfold dirB; simp [hd0]
              show _ = _
              unfold manyE
              rw [this]
              rfl
            have HA4 : Hid (Arr wc g 52 (enV (manyE d i))) := by
              have := HA0.out
              rw [HE0.out, ← HME.out] at this
              exact this
            clear HME
            go_upto_region 12 with fail
            have HEL5 : Hid ((enV (manyE d i)).length = 68) := enV_len (manyE_ok d i)
            have HL5 : Hid (OwnE (wc.alloc (.cells (enV (manyE d i)).toArray 52)) w.heap.size u5 (manyL d i)) := HLC.out.below (lit_blw _ _)
            have HO5 := hide (isEn_one wc (manyE d i) HOK.out)
            have HI5 : Hid ((Tryd.prog.info? 52).map (·.size) = some (enV (manyE d i)).length) := infoEof (manyE_ok d i)
            have HS5 : Hid (w.heap.size ≤ (wc.alloc (.cells (enV (manyE d i)).toArray 52)).heap.size) := Nat.le_trans HBC.out.size (lit_blw _ _).size
            have HB5 : Hid (Below w.heap.size w (wc.alloc (.cells (enV (manyE d i)).toArray 52))) := below_then HBC.out (lit_blw _ _)
            have HML := hide (manyL_len d i)
            have HR5 := hide HA4.out.range
            have HSU := hide (manyL_succ d i)
            generalize manyE d i = en at *
            generalize manyL d i = ml at *
            go_wp2_with (first
              | (refine wpList_load_on rfl 52 (.tmp 8) rfl g 0 rfl (enV en) _ HR5.out Tryd.underlying52 rfl HI5.out ?_)
              | (refine wpList_buildEn rfl (.tmp 57) rfl rfl HEL5.out ?_)
              | (at_builtin; refine wpList_appEn rfl (.tmp 56) (.tmp 58) rfl rfl HL5.out rfl HO5.out (by rw [HML.out]; simp; omega) HS5.out ?_; intro v7 w7 ho7 hg7 hvb7))
            have HB7 := hide (below_app HB5.out hg7 HS5.out hvb7)
            rw [← HSU.out] at ho7
            have HO7 := hide ho7
            clear ho7 hg7 hvb7
            go_roundw
            case rel => exact ⟨i + 1, by omega, by go_num, HO7.out, HB7.out⟩
            case measure => simp [intOf]; omega
      · obtain rfl : i = N := by omega
        obtain ⟨hL0, hbL⟩ := HL.out
        have hltI : ¬ (i : Int) < (i : Int) := by omega
        have hck := manyL_chk d hN
        have hln := manyL_len d i
        have HOKL := hide hL0.1
        obtain ⟨l, hl⟩ : ∃ l, manyL d i = l := ⟨_, rfl⟩
        rw [hl] at hck hln hL0 HOKL
        obtain ⟨a0, c0, hu5⟩ := hL0.shape
        rw [hln] at hu5
        subst hu5
        have HI : Hid (∀ W, Below wr.heap.size wr W → IsEn W (.slice a0 i c0) l) := fun W hW => hL0.isEn.below hW
        have HTW : Hid (∀ W, Below wr.heap.size wr W → Tabs W) := fun W hW => unhide HT W (hbL.trans (hW.mono hbL.size))
        have HBL := hide hbL
        obtain ⟨ck, hcke⟩ : ∃ ck, chkL nbL l = ck := ⟨_, rfl⟩
        have HEN := hide (encode_calls (unhide HI wr (Below.refl _ _)))
        have hkl := keyR_len l
        have hke := key_neq (keyR l) (keyR l) hkl hkl
        rw [decide_eq_true rfl] at hke
        have hkg := key_guard
        have HIK := hide (infoKof hkl)
        have HZK : Hid (z32.length = ((keyR l).map (Value.int .u8)).length) := by show _ = _; rw [z32_len, List.length_map, hkl]
        rw [hcke] at HEN hck
        have HCKE := hide hcke
        have HCK := hide hck
        have HN0 := hide hln
        clear HL hL0 hbL hck hln hl hcke hkl HT HD
        go_wp2_with fail
        refine (unhide HEN).mono ?_
        rintro e w5 ⟨u5, rfl, ho5, hb5⟩
        obtain ⟨a5, n5, c5, hu5⟩ := ho5.shape
        subst hu5
        have HI5 : Hid (∀ W, Below w5.heap.size w5 W → IsB W (.slice a5 n5 c5) (encR l)) := fun W hW => ho5.isB.below hW
        have HRE := hide (rencode_calls (unhide HI w5 hb5))
        rw [HCKE.out] at HRE
        have HB5 := hide hb5
        clear HEN ho5 hb5
        go_wp2_with fail
        refine (unhide HRE).mono ?_
        rintro e w6 ⟨u6, rfl, ho6, hb6⟩
        obtain ⟨a6, n6, c6, hu6⟩ := ho6.shape
        subst hu6
        have hb06 := HB5.out.trans (hb6.mono HB5.out.size)
        have HI6 : Hid (∀ W, Below w6.heap.size w6 W → IsB W (.slice a6 n6 c6) (encR l)) := fun W hW => ho6.isB.below hW
        have HKE := hide (keyOf_calls (unhide HI w6 hb06) (unhide HTW w6 hb06))
        rw [HCKE.out] at HKE
        have HB56 := hide hb6
        have HB06 := hide hb06
        clear HRE ho6 hb6 hb06
        go_upto_region 16 with (first
          | (go_at_call 14; refine (unhide HKE).mono ?_; rintro e w7 ⟨rfl, hb7⟩)
          | (refine wpList_allocZ rfl 31 rfl infoK ?_)
          | (refine wpList_storeArr2 (cs' := (keyR l).map (Value.int .u8)) rfl (.tmp 13) (.tmp 73) 31 rfl rfl rfl (Arr.new w7 z32 31) HIK.out HZK.out (u8_one _) ?_; intro w8 hA8 hw8))
        have hb68 : Below w6.heap.size w6 w8 := hb7.trans ((hw8.below _ _ (lit_blw _ _) (Nat.le_refl _)).mono hb7.size)
        have hb08 := HB06.out.trans (hb68.mono HB06.out.size)
        have HKR := hide (rkeyOf_calls (unhide HI w8 hb08))
        rw [HCKE.out] at HKR
        obtain ⟨g8, hg8⟩ : ∃ g8, w7.heap.size = g8 := ⟨_, rfl⟩
        rw [hg8] at hA8
        rw [hg8]
        have HA8 : Hid (∀ W, Below w8.heap.size w8 W → Arr W g8 31 ((keyR l).map (Value.int .u8))) := fun W hW => hA8.below hW
        have HB68 := hide hb68
        have HB08 := hide hb08
        clear HKE hw8 hb7 hg8 hA8 hb68 hb08
        go_upto_region 17 with (first
          | (go_at_call 16; refine (unhide HKR).mono ?_; rintro e w9 ⟨rfl, hb9⟩)
          | (refine wpList_allocZ rfl 31 rfl infoK ?_)
          | (refine wpList_storeArr2 (cs' := (keyR l).map (Value.int .u8)) rfl (.tmp 15) (.tmp 78) 31 rfl rfl rfl (Arr.new w9 z32 31) HIK.out HZK.out (u8_one _) ?_; intro w10 hA10 hw10))
        have hb810 : Below w8.heap.size w8 w10 := hb9.trans ((hw10.below _ _ (lit_blw _ _) (Nat.le_refl _)).mono hb9.size)
        have hb010 := HB08.out.trans (hb810.mono HB08.out.size)
        obtain ⟨g9, hg9⟩ : ∃ g9, w9.heap.size = g9 := ⟨_, rfl⟩
        rw [hg9] at hA10
        rw [hg9]
        have HA10 : Hid (∀ W, Below w10.heap.size w10 W → Arr W g9 31 ((keyR l).map (Value.int .u8))) := fun W hW => hA10.below hW
        have HTL := hide (ntold_calls (unhide HTW w10 hb010))
        have HB810 := hide hb810
        have HB010 := hide hb010
        have hqq : (ck == ck) = true := by simp
        clear HKR hw10 hb9 hg9 hA10 hb810 hb010
        go_upto_region 19 with (first
          | (go_at_call 9; refine (unhide HTL).mono ?_; rintro e w11 ⟨rfl, hb11⟩; have hb811 := HB810.out.trans (hb11.mono HB810.out.size); have hb611 := HB68.out.trans (hb811.mono HB68.out.size); have hb511 := HB56.out.trans (hb611.mono HB56.out.size); have HSB := hide (same_calls (unhide HI5 w11 hb511) (unhide HI6 w11 hb611)); have HA11 := hide (unhide HA8 w11 hb811).range; have HA12 := hide (unhide HA10 w11 hb11).range; have HB11 := hide (HB010.out.trans (hb11.mono HB010.out.size)); have HB611 := hide hb611; clear hb811 hb611 hb511 hb11 HTL)
          | (go_at_call 17; refine (unhide HSB).mono ?_; rintro e w12 ⟨rfl, hw12⟩; have hb12 := below_same hw12; have HB12 := hide (HB11.out.trans (hb12.mono HB11.out.size)); have HB613 := hide (HB611.out.trans (hb12.mono HB611.out.size)); have hch := check_calls (unhide HI w12 HB12.out); rw [HCKE.out] at hch; have HCH := hide hch; have HR8 := hide (range_kept HA11.out hb12); have HR9 := hide (range_kept HA12.out hb12); clear hw12 hch hb12)
          | (refine wpList_load_on rfl 31 (.tmp 13) rfl g8 0 rfl ((keyR l).map (Value.int .u8)) _ HR8.out Tryd.underlying31 rfl HIK.out ?_)
          | (refine wpList_load_on rfl 31 (.tmp 15) rfl g9 0 rfl ((keyR l).map (Value.int .u8)) _ HR9.out Tryd.underlying31 rfl HIK.out ?_)
          | (go_at_call 12; refine (unhide HCH).mono ?_; rintro e w13 ⟨rfl, hb13⟩))
        have hb013 := HB12.out.trans (hb13.mono HB12.out.size)
        have HBE := hide (HBL.out.trans (hb013.mono HBL.out.size))
        by_cases hbig : 1024 < i
        · have hI : (i : Int) > 1024 := by omega
          have h82 : ck = 82 := by rw [HCK.out, if_pos hbig]
          subst h82
          clear hb013 hb13
          go_wp2
          go_ret
          exact ⟨rfl, HBE.out⟩
        · have hI : ¬ (i : Int) > 1024 := by omega
          have h0 : ck = 0 := by rw [HCK.out, if_neg hbig]
          subst h0
          have HER : Hid (encR l = encL l) := by show _ = _; unfold encR; rw [if_pos HCKE.out]
          have hd := decode_calls (unhide HI6 w13 (HB613.out.trans (hb13.mono HB613.out.size)))
          rw [HER.out, dec_enc nbL_le (fun e he => (HOKL.out e he).ok) HCKE.out] at hd
          have HDE := hide hd
          have HB013 := hide hb013
          clear hb013 hb13 hd
          go_wp2_with fail
          refine (unhide HDE).mono ?_
          rintro e w14 ⟨u14, rfl, ho14, hb14⟩
          have hb014 := HB013.out.trans (hb14.mono HB013.out.size)
          have hse := esame_calls ho14.isEn (unhide HI w14 hb014)
          rw [decide_eq_true rfl] at hse
          obtain ⟨a14, c14, hu14⟩ := ho14.shape
          rw [HN0.out] at hu14
          subst hu14
          have HSE := hide hse
          have HBF := hide (HBL.out.trans (hb014.mono HBL.out.size))
          clear HDE hse ho14 hb14 hb014
          go_wp2_with (go_at_call 23; refine (unhide HSE).mono ?_; rintro e w15 ⟨rfl, hb15⟩)
          go_ret
          exact ⟨rfl, HBF.out.trans (hb15.mono HBF.out.size)⟩
end Go.Proofs.YtpklbchbldipnaaDoor
