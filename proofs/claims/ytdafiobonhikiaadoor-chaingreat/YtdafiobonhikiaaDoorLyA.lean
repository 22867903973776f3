/- chain's statements: the document's Lay. -/
import Derived.Test.YtdafiobonhikiaaDoorWtA
import Derived.Test.YtdafiobonhikiaaDoorSK
namespace Go.Proofs.YtdafiobonhikiaaDoor
open Go.RowKit Go.Maps

theorem rsector_enter (v u z q : Value) (W : World) : (callFunc 39 #[v, u, z, q]).run Tryd.prog W = .ok (.enter 39 #[v, u, z, q]) W := by kernel_rfl
theorem allocKey_run (W : World) : (Instr.alloc 24 true (.tuple #[])).run Tryd.prog W = .ok (.pointer (some ⟨W.heap.size, 0, none⟩)) (W.alloc (.cells (row32 []).toArray 24)) := by kernel_rfl
theorem wpList_allocKey {ops : Array Oper} {rest : List Oper} {o : Oper} {a : Act} {Q : Exit → Act → World → Prop} {w : World} (hgd : o.guard = none) (ho : o.op = .alloc 24) (hk : wpList Tryd.prog ops Q rest (a.put o.dst (.pointer (some ⟨w.heap.size, 0, none⟩))) (w.alloc (.cells (row32 []).toArray 24))) : wpList Tryd.prog ops Q (o :: rest) a w := by
  refine wpList_plain hgd fun K hK => ?_
  unfold Oper.wp execOp
  simp only [ho, Sem.run_bind, allocKey_run w, Result.andThen_ok, Sem.run_pure]
  exact hK _ _ hk
theorem min6 {x y m : Int} (h : m = min x y) : ∀ W : World, (Builtin.min_ #[3, 3] 3 #[.int .i64 x, .int .i64 y]).run Tryd.prog W = .ok (.int .i64 m) W := by
  intro W
  have e : (if y < x then y else x) = m := by subst h; split <;> omega
  simp [Builtin.min_, Builtin.min2, e]
theorem results_ref2 {fn : Func} {p s : Tmp} {g : Nat} {tmps : Array Value} {w : World} {v u : Value} (h : fn.results = #[.tmp s, .cell p 26]) (ha : tmps.getD p undef = .pointer (some ⟨g, 0, none⟩)) (hu : tmps.getD s undef = u) (hl : (loadVar 26 ⟨g, 0, none⟩).run Tryd.prog w = .ok v w) :
    (results fn tmps).run Tryd.prog w = .ok (.tuple #[u, v]) w := by
  have ha' : tmps[p]?.getD undef = .pointer (some ⟨g, 0, none⟩) := by simpa using ha
  have hu' : tmps[s]?.getD undef = u := by simpa using hu
  simp [results, h, asAddr, ha', hu', hl]
/-- The document's piece is the program's. -/
theorem piece_min (bs : List Int) (i : Nat) : (bs.drop (min (480 * i) bs.length)).take (min (480 * i + 480) bs.length - min (480 * i) bs.length) = pieceL bs i := by
  unfold pieceL
  by_cases h : 480 * i ≤ bs.length
  · rw [Nat.min_eq_left h]
    by_cases h2 : 480 * i + 480 ≤ bs.length
    · rw [Nat.min_eq_left h2, show 480 * i + 480 - 480 * i = 480 by omega]
    · rw [Nat.min_eq_right (by omega), List.take_of_length_le (by rw [List.length_drop]; omega), List.take_of_length_le (by rw [List.length_drop]; omega)]
  · rw [Nat.min_eq_right (by omega), Nat.min_eq_right (by omega), List.drop_of_length_le (Nat.le_refl _), List.drop_of_length_le (by omega)]
    simp
theorem own8_ty {W : World} {B : Nat} {v : Value} {xs : List Int} (h : Own8 W B v xs) : ∀ b, blkOf v = some b → Ty W b 5 := fun b hb => by
  obtain ⟨_, c, m, h1⟩ := own8_blk h hb
  exact ⟨c, m, h1⟩
set_option maxRecDepth 100000 in
set_option maxHeartbeats 8000000 in
theorem lay6_calls {w : World} {a la : Option Addr} {n c k lc : Nat} {bs : List Int} {ks : List Nat} (hb : IsB w (.slice a n c) bs) (hn : n ≤ 1048576) (hl : IsT w (.slice la k lc) (iZ ks)) (hk1 : 1 ≤ k) (hk2 : k ≤ 2185) (hks : ∀ x ∈ ks, x < 65536) :
    Calls Tryd.prog 19 #[.slice a n c, .slice la k lc] w fun e w' => ∃ v us, e = .returned (.tuple #[v, .agg (refV (shaOf bs) ((ks.getD 0 0 : Nat) : Int) (n : Int)).toArray]) ∧ Ig w' w.heap.size v us ((List.range k).map (sectK bs ks)) ∧ Below w.heap.size w w' := by
  have hbn := hb.lenEq
  have hsl := shaOf_len bs
  have hby := hb.mem
  obtain ⟨hkl, lb, lo, hla, hkc, hcm, hlc⟩ : ks.length = k ∧ ∃ lb lo, la = some ⟨lb, lo, none⟩ ∧ k ≤ lc ∧ lc ≤ 9223372036854775807 ∧ ∀ W, Below w.heap.size w W → ∀ j, j < k → W.cell? ⟨lb, lo + j, none⟩ = some (.int .i64 ((ks.getD j 0 : Nat) : Int)) := by
    obtain ⟨a0, c0, hv, h1, h2, h3⟩ := hl.val
    have hz : (iZ ks).length = ks.length := by unfold iZ; simp
    injection hv with e1 e2 e3
    subst e1 e3
    obtain ⟨b, off, e4, h4⟩ := h3 (by omega)
    refine ⟨by omega, b, off, e4, by omega, h2, fun W hW j hj => ?_⟩
    have h5 := h4 j (by omega)
    have e5 : (iZ ks).getD j 0 = ((ks.getD j 0 : Nat) : Int) := by
      unfold iZ
      rw [List.getD_eq_getElem?_getD, List.getElem?_map, List.getD_eq_getElem?_getD, List.getElem?_eq_getElem (by omega)]
      rfl
    rw [e5] at h5
    exact bkeptC hW h5
  subst hla
  have hlb : lb < w.heap.size := World.block_lt_of_cell? w ⟨lb, lo + 0, none⟩ (hlc w (Below.refl _ _) 0 (by omega))
  have hnx : ∀ i, 0 ≤ nxK ks i ∧ nxK ks i < 65536 := fun i => by
    unfold nxK
    by_cases h : i + 1 < ks.length
    · have := hks _ (getD_mem h); omega
    · rw [List.getD_eq_getElem?_getD, List.getElem?_eq_none (by omega)]; simp
  obtain ⟨S, hS⟩ : ∃ S, w.heap.size = S := ⟨_, rfl⟩
  obtain ⟨wa, hwa⟩ : ∃ wa, w.alloc (.cells zRef.toArray 26) = wa := ⟨_, rfl⟩
  have hba : Below w.heap.size w wa := by rw [← hwa]; exact (Below.refl _ _).alloc (Nat.le_refl _) _
  have hAa : Arr wa S 26 zRef := by rw [← hwa, ← hS]; exact Arr.new w zRef 26
  have HSUM := hide (rsum_calls (hb.below hba) (by omega))
  obtain ⟨KV, hKV⟩ : ∃ KV, (shaOf bs).map (Value.int .u8) = KV := ⟨_, rfl⟩
  have hkv : keyV bs = .agg KV.toArray := by unfold keyV; rw [hKV]
  rw [hkv] at HSUM
  have hiK : (Tryd.prog.info? 24).map (·.size) = some KV.length := by rw [← hKV]; exact infoKey hsl
  have hlK : (row32 []).length = KV.length := by rw [← hKV, List.length_map, hsl]; rfl
  have h1K : ∀ u ∈ KV, u.oneCell' = true := by rw [← hKV]; exact u8_one _
  have HSEC : Hid (∀ W i (nx : Int) pa pn pc, nxK ks i = nx → i < 2185 → IsB W (.slice pa pn pc) (pieceL bs i) → Calls Tryd.prog 39 #[.agg KV.toArray, .int .i64 (i : Int), .int .i64 nx, .slice pa pn pc] W fun e w' => ∃ a4 c4, e = .returned (.slice a4 512 c4) ∧ Own8 w' W.heap.size (.slice a4 512 c4) (sectK bs ks i) ∧ Below W.heap.size W w') := hide (fun W i nx pa pn pc h1 h2 h3 => by
    rw [← hKV, ← h1]
    have := hnx i
    refine (refSector_calls h3 (pieceL_len bs i) hsl (sha_bytes bs) this.1 (by omega) (by omega) (by omega)).mono ?_
    rintro e w' ⟨v, rfl, ho, hb'⟩
    obtain ⟨a4, n4, c4, rfl⟩ := ho.shape
    obtain rfl : n4 = 512 := by
      have h9 := ho.isB.lenEq
      have h8 := (sectK_is hby ks i).1
      unfold sectK at h8
      omega
    exact ⟨a4, c4, rfl, ho, hb'⟩)
  have HPI : Hid (∀ W i q q2, Below S w W → min (480 * i) n = q → min (480 * i + 480) n = q2 → (∀ W2 : World, (Instr.sliceAt 22 (.slice a n c) (some (.int .i64 (q : Int))) (some (.int .i64 (q2 : Int))) none).run Tryd.prog W2 = .ok (.slice (subA a c q) (q2 - q) (c - q)) W2) ∧ IsB W (.slice (subA a c q) (q2 - q) (c - q)) (pieceL bs i)) := hide (fun W i q q2 hW h1 h2 => by
    obtain ⟨_, a2, c2, hv2, hc2, _⟩ := id hb
    injection hv2 with f1 f2 f3
    refine ⟨fun W2 => slice_lh a n c q q2 (by omega) (by omega) W2, ?_⟩
    rw [← hS] at hW
    have h3 := (hb.below hW).sub (q := q) (t := q2) (by omega) (by omega)
    rw [← piece_min, ← hbn, h1, h2]
    exact h3)
  have HIS : Hid (∀ i, IsSec (sectK bs ks i)) := hide (fun i => sectK_is hby ks i)
  have HNX : Hid (∀ i, nxK ks i = ((ks.getD (i + 1) 0 : Nat) : Int)) := hide (fun i => rfl)
  have HNE : Hid (∀ i, i + 1 = k → nxK ks i = 0) := hide (fun i hi => by
    unfold nxK
    rw [List.getD_eq_getElem?_getD, List.getElem?_eq_none (by omega)]
    rfl)
  have hiR := infoRef hsl ((ks.getD 0 0 : Nat) : Int) (n : Int)
  have hzl : zRef.length = (refV (shaOf bs) ((ks.getD 0 0 : Nat) : Int) (n : Int)).length := by rw [refV_len hsl]; rfl
  have h1R := refV_one (shaOf bs) ((ks.getD 0 0 : Nat) : Int) (n : Int)
  have HLD : Hid (∀ W, Arr W S 26 (refV (shaOf bs) ((ks.getD 0 0 : Nat) : Int) (n : Int)) → (loadVar 26 ⟨S, 0, none⟩).run Tryd.prog W = .ok (.agg (refV (shaOf bs) ((ks.getD 0 0 : Nat) : Int) (n : Int)).toArray) W) := hide (fun W h => h.loadRef hsl)
  obtain ⟨f0, hf0⟩ : ∃ f0 : Nat, ks.getD 0 0 = f0 := ⟨_, rfl⟩
  have HBR : Hid (∀ W : World, (Instr.build 26 #[(0, .agg KV.toArray), (1, .int .i64 (f0 : Int)), (2, .int .i64 (n : Int))]).run Tryd.prog W = .ok (.agg (refV (shaOf bs) ((ks.getD 0 0 : Nat) : Int) (n : Int)).toArray) W) := hide (fun W => by rw [← hKV, ← hf0]; exact buildRef_run hsl _ _ W)
  have HF0 := hide hf0
  have HLC : Hid (∀ W, Below S w W → ∀ j, j < k → W.cell? ⟨lb, lo + j, none⟩ = some (.int .i64 ((ks.getD j 0 : Nat) : Int))) := hide (by rw [← hS]; exact hlc)
  have HLB : Hid (lb < S) := hide (by rw [← hS]; exact hlb)
  have HS := hide hS
  have HWA := hide hwa
  have HAA := hide hAa
  have HBA := hide hba
  rw [hS]
  generalize refV (shaOf bs) ((ks.getD 0 0 : Nat) : Int) (n : Int) = rV at *
  clear hb hn hl hbn hsl hby hlc hlb hnx hS hwa hAa hba hKV hkv hf0
  go_enter Tryd.func19, Tryd.ntmps19
  go_wp2_with (refine wpList_allocRef rfl rfl ?_; rw [HWA.out, HS.out])
  refine (unhide HSUM).mono ?_
  rintro e w1 ⟨rfl, hb1⟩
  obtain ⟨gH, hgH⟩ : ∃ gH, w1.heap.size = gH := ⟨_, rfl⟩
  obtain ⟨w2, hw2⟩ : ∃ w2, w1.alloc (.cells (row32 []).toArray 24) = w2 := ⟨_, rfl⟩
  have hA2 : Arr w2 gH 24 (row32 []) := by rw [← hw2, ← hgH]; exact Arr.new w1 _ _
  have hsz : S < gH := by
    have h1 := HAA.out.lt
    have h2 := hb1.size
    omega
  have HW2 : Hid (∀ w3, Arr w3 gH 24 KV → Wrote w2 w3 gH → Below S w w3 ∧ Arr w3 S 26 zRef) := hide (fun w3 hA3 hWr => by
    have hba := HBA.out
    rw [HS.out] at hba
    have hs1 := HAA.out.lt
    have h2 : Below S w w1 := hba.trans (hb1.mono (by omega))
    have h12 : Below w1.heap.size w1 w2 := by rw [← hw2]; exact (Below.refl _ _).alloc (Nat.le_refl _) _
    have h3 : Below S w w2 := h2.trans (h12.mono (by omega))
    exact ⟨hWr.below _ _ h3 (by omega), ((HAA.out.below hb1).below h12).wrote hWr (by omega)⟩)
  have HWQ := hide hw2
  have HGH := hide hgH
  clear HSUM hb1 hw2 hgH HBA HAA
  go_wp2_with (first
    | (refine wpList_allocKey rfl rfl ?_; rw [HWQ.out, HGH.out])
    | (refine wpList_storeArr2 (cs' := KV) rfl (.tmp 6) (.tmp 13) 24 rfl rfl rfl hA2 hiK hlK h1K ?_; intro w3 hA3 hWr3
       have HI3 : Hid (∃ us, Ig w3 S (.slice none 0 0) us ((List.range 0).map (sectK bs ks)) ∧ Arr w3 gH 24 KV ∧ Arr w3 S 26 zRef ∧ Below S w w3) := hide ⟨[], Ig.nil _ _, hA3, (unhide HW2 w3 hA3 hWr3).2, (unhide HW2 w3 hA3 hWr3).1⟩
       clear hA3 hWr3))
  clear hA2 HW2 HWQ
  go_loopw [7, 8] (fun ov iv W => ∃ (i : Nat) (oa : Option Addr) (oc : Nat), i ≤ k ∧ ov = .slice oa i oc ∧ iv = .int .i64 (i : Int) ∧ Hid (∃ us, Ig W S (.slice oa i oc) us ((List.range i).map (sectK bs ks)) ∧ Arr W gH 24 KV ∧ Arr W S 26 zRef ∧ Below S w W)) (fun _ iv _ => k - (intOf iv).toNat)
  case atStart => exact ⟨0, none, 0, by omega, rfl, rfl, HI3⟩
  case round =>
    clear HI3
    obtain ⟨i, oa, oc, hik, rfl, rfl, HI⟩ := hrel
    by_cases hlt : i < k
    · obtain ⟨us, hIg, hAK, hAR, hbw⟩ := HI.out
      obtain ⟨q, hq⟩ : ∃ q, min (480 * i) n = q := ⟨_, rfl⟩
      obtain ⟨q2, hq2⟩ : ∃ q2, min (480 * i + 480) n = q2 := ⟨_, rfl⟩
      obtain ⟨hsl, hpi⟩ := unhide HPI wr i q q2 hbw hq hq2
      obtain ⟨pa, hpa⟩ : ∃ pa, subA a c q = pa := ⟨_, rfl⟩
      obtain ⟨pn, hpn⟩ : ∃ pn, q2 - q = pn := ⟨_, rfl⟩
      obtain ⟨pc, hpc⟩ : ∃ pc, c - q = pc := ⟨_, rfl⟩
      rw [hpa, hpn, hpc] at hsl hpi
      have em : IntKind.i64.wrap (480 * (i : Int)) = 480 * (i : Int) := by rw [IntKind.wrap_i64]; omega
      have em2 : IntKind.i64.wrap (480 * (i : Int) + 480) = 480 * (i : Int) + 480 := by rw [IntKind.wrap_i64]; omega
      have hmn : ∀ W : World, (Builtin.min_ #[3, 3] 3 #[.int .i64 (480 * (i : Int)), .int .i64 (n : Int)]).run Tryd.prog W = .ok (.int .i64 (q : Int)) W := min6 (by omega)
      have hmn2 : ∀ W : World, (Builtin.min_ #[3, 3] 3 #[.int .i64 (480 * (i : Int) + 480), .int .i64 (n : Int)]).run Tryd.prog W = .ok (.int .i64 (q2 : Int)) W := min6 (by omega)
      obtain ⟨i1, hi1⟩ : ∃ i1, i + 1 = i1 := ⟨_, rfl⟩
      have ei : IntKind.i64.wrap ((i : Int) + 1) = (i1 : Int) := by rw [IntKind.wrap_i64]; omega
      have HIG := hide hIg
      have HAK := hide hAK
      have HAR := hide hAR
      have HBW := hide hbw
      have HPJ := hide hpi
      have HI1 := hide hi1
      have HUL : Hid (us.length = i) := hide (by rw [hIg.len, List.length_map, List.length_range])
      have hrg : wr.rangeAt gH 0 KV := arr_range (ds := []) (by rw [List.append_nil]; exact hAK)
      have HRG : Hid (∀ W, Below wr.heap.size wr W → W.rangeAt gH 0 KV) := hide (fun W hW => arr_range (ds := []) (by rw [List.append_nil]; exact hAK.below hW))
      have hSw : S ≤ wr.heap.size := Nat.le_of_lt hAR.lt
      clear hIg hAK hAR hbw hpi hpa hpn hpc hq hq2 HPI hi1
      have HNXI := hide (unhide HNX i)
      by_cases hl1 : i1 < k
      · have hl1I : (i1 : Int) < (k : Int) := by omega
        obtain ⟨nx, hnx⟩ : ∃ nx : Nat, ks.getD i1 0 = nx := ⟨_, rfl⟩
        have hcl : wr.cell? ⟨lb, lo + i1, none⟩ = some (.int .i64 (nx : Int)) := by rw [← hnx]; exact unhide HLC wr HBW.out i1 hl1
        have HNV : Hid (nxK ks i = (nx : Int)) := hide (by rw [HNXI.out, HI1.out, hnx])
        clear hnx HNXI HNE
        go_wp2_with fail
        refine wp_region_held_drew (S := fun W => W.rangeAt gH 0 KV) (by kernel_rfl) (unhide HRG _ (Below.refl _ _).drew) (fun hHeld => ?_)
        refine wpAnyH_take (i := 0) (v := .slice (oa) i oc) rfl (by kernel_rfl) (by kernel_rfl) (by kernel_rfl) (fun _ _ _ h => h) (Or.inl ⟨by rfl, fun w hSw => by go_simp⟩) (by assumption) ?_
        simp only [List.getElem_toArray, List.getElem_cons_zero, Act.put, List.setIfInBounds_toArray, List.set_cons_zero, List.set_cons_succ]
        refine wpAnyH_take (i := 1) (v := .agg (KV).toArray) rfl (by kernel_rfl) (by kernel_rfl) (by kernel_rfl) (fun _ _ _ h => h) (yieldsIf_load_mid (by rfl) _ _ rfl _ _ rfl _ _ (fun w hSw => hSw) Tryd.underlying24 rfl hiK) (by assumption) ?_
        simp only [List.getElem_toArray, List.getElem_cons_succ, List.getElem_cons_zero, Act.put, List.setIfInBounds_toArray, List.set_cons_zero, List.set_cons_succ]
        refine wpAnyH_take (i := 2) (v := .int .i64 (i : Int)) rfl (by kernel_rfl) (by kernel_rfl) (by kernel_rfl) (fun _ _ _ h => h) (Or.inl ⟨by rfl, fun w hSw => by go_simp⟩) (by assumption) ?_
        simp only [List.getElem_toArray, List.getElem_cons_succ, List.getElem_cons_zero, Act.put, List.setIfInBounds_toArray, List.set_cons_zero, List.set_cons_succ]
        refine wpAnyH_take (i := 3) (v := .int .i64 (nx : Int)) rfl (by kernel_rfl) (by kernel_rfl) (by kernel_rfl) (fun _ _ _ h => h) (Or.inl ⟨by rfl, fun w hSw => by go_simp⟩) (by assumption) ?_
        simp only [List.getElem_toArray, List.getElem_cons_succ, List.getElem_cons_zero, Act.put, List.setIfInBounds_toArray, List.set_cons_zero, List.set_cons_succ]
        refine wpAnyH_take (i := 4) (v := .slice (a) n c) rfl (by kernel_rfl) (by kernel_rfl) (by kernel_rfl) (fun _ _ _ h => h) (Or.inl ⟨by rfl, fun w hSw => by go_simp⟩) (by assumption) ?_
        simp only [List.getElem_toArray, List.getElem_cons_succ, List.getElem_cons_zero, Act.put, List.setIfInBounds_toArray, List.set_cons_zero, List.set_cons_succ]
        refine wpAnyH_take (i := 5) (v := .int .i64 (q : Int)) rfl (by kernel_rfl) (by kernel_rfl) (by kernel_rfl) (fun _ _ _ h => h) (Or.inl ⟨by rfl, fun w hSw => by go_simp⟩) (by assumption) ?_
        simp only [List.getElem_toArray, List.getElem_cons_succ, List.getElem_cons_zero, Act.put, List.setIfInBounds_toArray, List.set_cons_zero, List.set_cons_succ]
        refine wpAnyH_take (i := 6) (v := .int .i64 (q2 : Int)) rfl (by kernel_rfl) (by kernel_rfl) (by kernel_rfl) (fun _ _ _ h => h) (Or.inl ⟨by rfl, fun w hSw => by go_simp⟩) (by assumption) ?_
        simp only [List.getElem_toArray, List.getElem_cons_succ, List.getElem_cons_zero, Act.put, List.setIfInBounds_toArray, List.set_cons_zero, List.set_cons_succ]
        refine wpAnyH_take (i := 7) (v := .slice (pa) pn pc) rfl (by kernel_rfl) (by kernel_rfl) (by kernel_rfl) (fun _ _ _ h => h) (Or.inl ⟨by rfl, fun w hSw => by go_simp⟩) (by assumption) ?_
        simp only [List.getElem_toArray, List.getElem_cons_succ, List.getElem_cons_zero, Act.put, List.setIfInBounds_toArray, List.set_cons_zero, List.set_cons_succ]
        refine wpAnyH_ready (rs := [8]) (by kernel_rfl) (by simp) (AllReadyH.cons rfl (fun K hK => ?_) AllReadyH.nil)
        refine step_call4C (by rfl) 39 rsector_enter (.tmp 42) (.tmp 43) (.tmp 44) (.tmp 48) _ rfl rfl rfl rfl rfl (unhide HSEC _ i _ pa pn pc HNV.out (by omega) (HPJ.out.below (Below.refl _ _).drew)) ?_
        rintro e w4 ⟨a4, c4, rfl, ho4, hb4⟩
        have hx4 : Below wr.heap.size wr w4 := ((Below.refl _ _).drew : Below wr.heap.size wr wr.drew).trans (hb4.mono (Nat.le_refl _))
        refine ⟨_, rfl, ?_⟩
        refine hK.out _ _ (unhide HRG _ hx4) (fun hJ1 => ?_)
        clear hK K
        simp only [List.getElem_toArray, List.getElem_cons_succ, List.getElem_cons_zero, Act.put, List.setIfInBounds_toArray, List.set_cons_zero, List.set_cons_succ]
        refine wpAnyH_ready (rs := [9]) (by kernel_rfl) (by simp) (AllReadyH.cons rfl (fun K hK => ?_) AllReadyH.nil)
        refine step_buildSlW (by rfl) (.tmp 49) rfl rfl ?_
        have hx5 : Below wr.heap.size wr (w4.alloc (.cells #[.slice a4 512 c4] 22)) := hx4.alloc hx4.size _
        refine hK.out _ _ (unhide HRG _ hx5) (fun hJ2 => ?_)
        clear hK K
        simp only [List.getElem_toArray, List.getElem_cons_succ, List.getElem_cons_zero, Act.put, List.setIfInBounds_toArray, List.set_cons_zero, List.set_cons_succ]
        refine wpAnyH_ready (rs := [10]) (by kernel_rfl) (by simp) (AllReadyH.cons rfl (fun K hK => ?_) AllReadyH.nil)
        refine step_appSl (by rfl) (.tmp 41) (.tmp 50) rfl rfl (HIG.out.below hx5).own rfl (arr_cell (Arr.new w4 [.slice a4 512 c4] 22) rfl) rfl (by have := HUL.out; omega) (Nat.le_trans hSw hx5.size) ?_
        intro v6 w6 hr6 hg6 hat6
        have hb45 : Below w4.heap.size w4 (w4.alloc (.cells #[.slice a4 512 c4] 22)) := (Below.refl _ _).alloc (Nat.le_refl _) _
        have hty5 : ∀ b, blkOf (.slice a4 512 c4) = some b → Ty (w4.alloc (.cells #[.slice a4 512 c4] 22)) b 5 := fun b hb => (own8_ty ho4 b hb).up (F := fun _ => False) (Up.of_below hb45) (fun h => h)
        have hI6 := HIG.out.push hx5 (ho4.isB.below hb45) hty5 (unhide HIS i) hr6 hg6
        have hbk6 : ∀ x, (Value.slice oa i oc).ownBlock = some x → S ≤ x ∧ ∃ cc mm, (w4.alloc (.cells #[.slice a4 512 c4] 22)).heap[x]? = some (.cells cc 22 mm) := fun x hx => row_blk (HIG.out.below hx5).own hx
        have hu6 : Up (fun b => (Value.slice oa i oc).ownBlock = some b) (w4.alloc (.cells #[.slice a4 512 c4] 22)) w6 := up_own hg6
        have hAK6 : Arr w6 gH 24 KV := (HAK.out.below hx5).up hu6 (fun e => by obtain ⟨_, cc, mm, h3⟩ := hbk6 _ e; exact blk_unlike h3 (HAK.out.below hx5) (by decide) rfl)
        have hAR6 : Arr w6 S 26 zRef := (HAR.out.below hx5).up hu6 (fun e => by obtain ⟨_, cc, mm, h3⟩ := hbk6 _ e; exact blk_unlike h3 (HAR.out.below hx5) (by decide) rfl)
        have hbw6 : Below S w w6 := (HBW.out.trans (hx5.mono hSw)).trans (hu6.below (Nat.le_trans hSw hx5.size) (fun x hx => (hbk6 x hx).1))
        obtain ⟨va, vc, hv6⟩ := hr6.shape
        have hvn : (us ++ [Value.slice a4 512 c4]).length = i1 := by rw [List.length_append, HUL.out]; exact HI1.out
        rw [hvn] at hv6
        subst hv6
        have HQ : Hid (∃ us, Ig w6 S (.slice va i1 vc) us ((List.range i1).map (sectK bs ks)) ∧ Arr w6 gH 24 KV ∧ Arr w6 S 26 zRef ∧ Below S w w6) := hide ⟨_, by rw [← HI1.out, List.range_succ, List.map_append]; rw [HI1.out]; exact hI6, hAK6, hAR6, hbw6⟩
        have hrg6 : w6.rangeAt gH 0 KV := arr_range (ds := []) (by rw [List.append_nil]; exact hAK6)
        refine hK.out _ _ (hrg6) (fun hJ3 => ?_)
        clear hK K
        simp only [List.getElem_toArray, List.getElem_cons_succ, List.getElem_cons_zero, Act.put, List.setIfInBounds_toArray, List.set_cons_zero, List.set_cons_succ]
        refine wpAnyH_take (i := 11) (v := .slice (va) i1 vc) rfl (by kernel_rfl) (by kernel_rfl) (by kernel_rfl) (fun _ _ _ h => h) (Or.inl ⟨by rfl, fun w hSw => by go_simp⟩) (by assumption) ?_
        simp only [List.getElem_toArray, List.getElem_cons_succ, List.getElem_cons_zero, Act.put, List.setIfInBounds_toArray, List.set_cons_zero, List.set_cons_succ]
        refine wpAnyH_done (by kernel_rfl) ?_ _
        clear hI6 hbk6 hu6 hAK6 hAR6 hbw6 hvn hr6 hg6 hat6 hb45 hty5 ho4 hb4 hx4 hx5 hJ1 hJ2 hJ3 hHeld HIG HAK HAR HBW HPJ HRG HSEC
        go_wp2
        go_roundw
        case rel => exact ⟨i1, va, vc, by have := HI1.out; omega, rfl, by go_num, HQ⟩
        case measure => have := HI1.out; simp [intOf]; omega
      · have hl1I : ¬ (i1 : Int) < (k : Int) := by omega
        obtain ⟨nx, hnx⟩ : ∃ nx : Nat, nx = 0 := ⟨_, rfl⟩
        have HNV : Hid (nxK ks i = (nx : Int)) := hide (by rw [hnx]; exact unhide HNE i (by have := HI1.out; omega))
        obtain ⟨z, hz⟩ : ∃ z : Int, (nx : Int) = z := ⟨_, rfl⟩
        clear HNXI HNE
        subst hnx
        subst hz
        go_wp2_with fail
        refine wp_region_held_drew (S := fun W => W.rangeAt gH 0 KV) (by kernel_rfl) (unhide HRG _ (Below.refl _ _).drew) (fun hHeld => ?_)
        refine wpAnyH_take (i := 0) (v := .slice (oa) i oc) rfl (by kernel_rfl) (by kernel_rfl) (by kernel_rfl) (fun _ _ _ h => h) (Or.inl ⟨by rfl, fun w hSw => by go_simp⟩) (by assumption) ?_
        simp only [List.getElem_toArray, List.getElem_cons_zero, Act.put, List.setIfInBounds_toArray, List.set_cons_zero, List.set_cons_succ]
        refine wpAnyH_take (i := 1) (v := .agg (KV).toArray) rfl (by kernel_rfl) (by kernel_rfl) (by kernel_rfl) (fun _ _ _ h => h) (yieldsIf_load_mid (by rfl) _ _ rfl _ _ rfl _ _ (fun w hSw => hSw) Tryd.underlying24 rfl hiK) (by assumption) ?_
        simp only [List.getElem_toArray, List.getElem_cons_succ, List.getElem_cons_zero, Act.put, List.setIfInBounds_toArray, List.set_cons_zero, List.set_cons_succ]
        refine wpAnyH_take (i := 2) (v := .int .i64 (i : Int)) rfl (by kernel_rfl) (by kernel_rfl) (by kernel_rfl) (fun _ _ _ h => h) (Or.inl ⟨by rfl, fun w hSw => by go_simp⟩) (by assumption) ?_
        simp only [List.getElem_toArray, List.getElem_cons_succ, List.getElem_cons_zero, Act.put, List.setIfInBounds_toArray, List.set_cons_zero, List.set_cons_succ]
        refine wpAnyH_take (i := 3) (v := .int .i64 0) rfl (by kernel_rfl) (by kernel_rfl) (by kernel_rfl) (fun _ _ _ h => h) (Or.inl ⟨by rfl, fun w hSw => by go_simp⟩) (by assumption) ?_
        simp only [List.getElem_toArray, List.getElem_cons_succ, List.getElem_cons_zero, Act.put, List.setIfInBounds_toArray, List.set_cons_zero, List.set_cons_succ]
        refine wpAnyH_take (i := 4) (v := .slice (a) n c) rfl (by kernel_rfl) (by kernel_rfl) (by kernel_rfl) (fun _ _ _ h => h) (Or.inl ⟨by rfl, fun w hSw => by go_simp⟩) (by assumption) ?_
        simp only [List.getElem_toArray, List.getElem_cons_succ, List.getElem_cons_zero, Act.put, List.setIfInBounds_toArray, List.set_cons_zero, List.set_cons_succ]
        refine wpAnyH_take (i := 5) (v := .int .i64 (q : Int)) rfl (by kernel_rfl) (by kernel_rfl) (by kernel_rfl) (fun _ _ _ h => h) (Or.inl ⟨by rfl, fun w hSw => by go_simp⟩) (by assumption) ?_
        simp only [List.getElem_toArray, List.getElem_cons_succ, List.getElem_cons_zero, Act.put, List.setIfInBounds_toArray, List.set_cons_zero, List.set_cons_succ]
        refine wpAnyH_take (i := 6) (v := .int .i64 (q2 : Int)) rfl (by kernel_rfl) (by kernel_rfl) (by kernel_rfl) (fun _ _ _ h => h) (Or.inl ⟨by rfl, fun w hSw => by go_simp⟩) (by assumption) ?_
        simp only [List.getElem_toArray, List.getElem_cons_succ, List.getElem_cons_zero, Act.put, List.setIfInBounds_toArray, List.set_cons_zero, List.set_cons_succ]
        refine wpAnyH_take (i := 7) (v := .slice (pa) pn pc) rfl (by kernel_rfl) (by kernel_rfl) (by kernel_rfl) (fun _ _ _ h => h) (Or.inl ⟨by rfl, fun w hSw => by go_simp⟩) (by assumption) ?_
        simp only [List.getElem_toArray, List.getElem_cons_succ, List.getElem_cons_zero, Act.put, List.setIfInBounds_toArray, List.set_cons_zero, List.set_cons_succ]
        refine wpAnyH_ready (rs := [8]) (by kernel_rfl) (by simp) (AllReadyH.cons rfl (fun K hK => ?_) AllReadyH.nil)
        refine step_call4C (by rfl) 39 rsector_enter (.tmp 42) (.tmp 43) (.tmp 44) (.tmp 48) _ rfl rfl rfl rfl rfl (unhide HSEC _ i _ pa pn pc HNV.out (by omega) (HPJ.out.below (Below.refl _ _).drew)) ?_
        rintro e w4 ⟨a4, c4, rfl, ho4, hb4⟩
        have hx4 : Below wr.heap.size wr w4 := ((Below.refl _ _).drew : Below wr.heap.size wr wr.drew).trans (hb4.mono (Nat.le_refl _))
        refine ⟨_, rfl, ?_⟩
        refine hK.out _ _ (unhide HRG _ hx4) (fun hJ1 => ?_)
        clear hK K
        simp only [List.getElem_toArray, List.getElem_cons_succ, List.getElem_cons_zero, Act.put, List.setIfInBounds_toArray, List.set_cons_zero, List.set_cons_succ]
        refine wpAnyH_ready (rs := [9]) (by kernel_rfl) (by simp) (AllReadyH.cons rfl (fun K hK => ?_) AllReadyH.nil)
        refine step_buildSlW (by rfl) (.tmp 49) rfl rfl ?_
        have hx5 : Below wr.heap.size wr (w4.alloc (.cells #[.slice a4 512 c4] 22)) := hx4.alloc hx4.size _
        refine hK.out _ _ (unhide HRG _ hx5) (fun hJ2 => ?_)
        clear hK K
        simp only [List.getElem_toArray, List.getElem_cons_succ, List.getElem_cons_zero, Act.put, List.setIfInBounds_toArray, List.set_cons_zero, List.set_cons_succ]
        refine wpAnyH_ready (rs := [10]) (by kernel_rfl) (by simp) (AllReadyH.cons rfl (fun K hK => ?_) AllReadyH.nil)
        refine step_appSl (by rfl) (.tmp 41) (.tmp 50) rfl rfl (HIG.out.below hx5).own rfl (arr_cell (Arr.new w4 [.slice a4 512 c4] 22) rfl) rfl (by have := HUL.out; omega) (Nat.le_trans hSw hx5.size) ?_
        intro v6 w6 hr6 hg6 hat6
        have hb45 : Below w4.heap.size w4 (w4.alloc (.cells #[.slice a4 512 c4] 22)) := (Below.refl _ _).alloc (Nat.le_refl _) _
        have hty5 : ∀ b, blkOf (.slice a4 512 c4) = some b → Ty (w4.alloc (.cells #[.slice a4 512 c4] 22)) b 5 := fun b hb => (own8_ty ho4 b hb).up (F := fun _ => False) (Up.of_below hb45) (fun h => h)
        have hI6 := HIG.out.push hx5 (ho4.isB.below hb45) hty5 (unhide HIS i) hr6 hg6
        have hbk6 : ∀ x, (Value.slice oa i oc).ownBlock = some x → S ≤ x ∧ ∃ cc mm, (w4.alloc (.cells #[.slice a4 512 c4] 22)).heap[x]? = some (.cells cc 22 mm) := fun x hx => row_blk (HIG.out.below hx5).own hx
        have hu6 : Up (fun b => (Value.slice oa i oc).ownBlock = some b) (w4.alloc (.cells #[.slice a4 512 c4] 22)) w6 := up_own hg6
        have hAK6 : Arr w6 gH 24 KV := (HAK.out.below hx5).up hu6 (fun e => by obtain ⟨_, cc, mm, h3⟩ := hbk6 _ e; exact blk_unlike h3 (HAK.out.below hx5) (by decide) rfl)
        have hAR6 : Arr w6 S 26 zRef := (HAR.out.below hx5).up hu6 (fun e => by obtain ⟨_, cc, mm, h3⟩ := hbk6 _ e; exact blk_unlike h3 (HAR.out.below hx5) (by decide) rfl)
        have hbw6 : Below S w w6 := (HBW.out.trans (hx5.mono hSw)).trans (hu6.below (Nat.le_trans hSw hx5.size) (fun x hx => (hbk6 x hx).1))
        obtain ⟨va, vc, hv6⟩ := hr6.shape
        have hvn : (us ++ [Value.slice a4 512 c4]).length = i1 := by rw [List.length_append, HUL.out]; exact HI1.out
        rw [hvn] at hv6
        subst hv6
        have HQ : Hid (∃ us, Ig w6 S (.slice va i1 vc) us ((List.range i1).map (sectK bs ks)) ∧ Arr w6 gH 24 KV ∧ Arr w6 S 26 zRef ∧ Below S w w6) := hide ⟨_, by rw [← HI1.out, List.range_succ, List.map_append]; rw [HI1.out]; exact hI6, hAK6, hAR6, hbw6⟩
        have hrg6 : w6.rangeAt gH 0 KV := arr_range (ds := []) (by rw [List.append_nil]; exact hAK6)
        refine hK.out _ _ (hrg6) (fun hJ3 => ?_)
        clear hK K
        simp only [List.getElem_toArray, List.getElem_cons_succ, List.getElem_cons_zero, Act.put, List.setIfInBounds_toArray, List.set_cons_zero, List.set_cons_succ]
        refine wpAnyH_take (i := 11) (v := .slice (va) i1 vc) rfl (by kernel_rfl) (by kernel_rfl) (by kernel_rfl) (fun _ _ _ h => h) (Or.inl ⟨by rfl, fun w hSw => by go_simp⟩) (by assumption) ?_
        simp only [List.getElem_toArray, List.getElem_cons_succ, List.getElem_cons_zero, Act.put, List.setIfInBounds_toArray, List.set_cons_zero, List.set_cons_succ]
        refine wpAnyH_done (by kernel_rfl) ?_ _
        clear hI6 hbk6 hu6 hAK6 hAR6 hbw6 hvn hr6 hg6 hat6 hb45 hty5 ho4 hb4 hx4 hx5 hJ1 hJ2 hJ3 hHeld HIG HAK HAR HBW HPJ HRG HSEC
        go_wp2
        go_roundw
        case rel => exact ⟨i1, va, vc, by have := HI1.out; omega, rfl, by go_num, HQ⟩
        case measure => have := HI1.out; simp [intOf]; omega
    · obtain ⟨us, hIg, hAK, hAR, hbw⟩ := HI.out
      have hcl : wr.cell? ⟨lb, lo, none⟩ = some (.int .i64 (f0 : Int)) := by
        have := unhide HLC wr hbw 0 (by omega)
        rw [HF0.out] at this
        exact this
      obtain rfl : i = k := by omega
      have hne0 : ¬ i = 0 := by omega
      have HRG : Hid (wr.drew.rangeAt gH 0 KV ∧ wr.drew.cell? ⟨lb, lo, none⟩ = some (.int .i64 (f0 : Int))) := hide ⟨arr_range (ds := []) (by rw [List.append_nil]; exact hAK.below (Below.refl _ _).drew), bkeptC (Below.refl _ _).drew hcl⟩
      have hAR2 : Arr wr.drew S 26 zRef := hAR.below (Below.refl _ _).drew
      have HFIN : Hid (∀ w6, Wrote wr.drew w6 S → Ig w6 S (.slice oa i oc) us ((List.range i).map (sectK bs ks)) ∧ Below S w w6) := hide (fun w6 hW6 => by
        have hU6 : Up (fun b => b = S) wr.drew w6 := by
          have h9 := hW6.below S wr.drew ⟨rfl, rfl, rfl, Nat.le_refl _, fun _ _ => rfl⟩ (Nat.le_refl _)
          exact ⟨h9.os, h9.tape, h9.output, h9.size, fun k _ hk => hW6.other k hk⟩
        refine ⟨(hIg.below (Below.refl _ _).drew).up hU6 (fun b hb e => ?_) (fun b hb e => ?_), hW6.below _ _ hbw.drew (Nat.le_refl _)⟩
        · obtain ⟨_, cc, mm, h3⟩ := row_blk (hIg.below (Below.refl _ _).drew).own hb
          exact blk_unlike h3 hAR2 (by decide) e
        · obtain ⟨cc, mm, h3⟩ := hb
          exact blk_unlike h3 hAR2 (by decide) e)
      have HRW : Hid (∀ w6, Wrote wr.drew w6 S → w6.rangeAt gH 0 KV ∧ w6.cell? ⟨lb, lo, none⟩ = some (.int .i64 (f0 : Int))) := hide (fun w6 hW6 => by
        have hl := HLB.out
        exact ⟨arr_range (ds := []) (by rw [List.append_nil]; exact (hAK.below (Below.refl _ _).drew).wrote hW6 (by omega)), (World.cell?_of_block (a := ⟨lb, lo, none⟩) (hW6.other lb (by omega))).trans (bkeptC (Below.refl _ _).drew hcl)⟩)
      clear hIg hAK hAR hbw HI hcl HPI HLC HSEC HIS HNX HNE
      go_wp2_with fail
      refine wp_region_held_drew (S := fun W => W.rangeAt gH 0 KV ∧ W.cell? ⟨lb, lo, none⟩ = some (.int .i64 (f0 : Int))) (by kernel_rfl) (HRG.out) (fun hHeld => ?_)
      refine wpAnyH_take (i := 0) (v := .slice (oa) i oc) rfl (by kernel_rfl) (by kernel_rfl) (by kernel_rfl) (fun _ _ _ h => h) (Or.inl ⟨by rfl, fun w hSw => by obtain ⟨hS1, hS2⟩ := hSw; go_simp⟩) (by assumption) ?_
      simp only [List.getElem_toArray, List.getElem_cons_zero, Act.put, List.setIfInBounds_toArray, List.set_cons_zero, List.set_cons_succ]
      refine wpAnyH_take (i := 1) (v := .agg (KV).toArray) rfl (by kernel_rfl) (by kernel_rfl) (by kernel_rfl) (fun _ _ _ h => h) (yieldsIf_load_mid (by rfl) _ _ rfl _ _ rfl _ _ (fun w hSw => hSw.1) Tryd.underlying24 rfl hiK) (by assumption) ?_
      simp only [List.getElem_toArray, List.getElem_cons_succ, List.getElem_cons_zero, Act.put, List.setIfInBounds_toArray, List.set_cons_zero, List.set_cons_succ]
      refine wpAnyH_take (i := 2) (v := .slice (some ⟨lb, lo, none⟩) i lc) rfl (by kernel_rfl) (by kernel_rfl) (by kernel_rfl) (fun _ _ _ h => h) (Or.inl ⟨by rfl, fun w hSw => by obtain ⟨hS1, hS2⟩ := hSw; go_simp⟩) (by assumption) ?_
      simp only [List.getElem_toArray, List.getElem_cons_succ, List.getElem_cons_zero, Act.put, List.setIfInBounds_toArray, List.set_cons_zero, List.set_cons_succ]
      refine wpAnyH_take (i := 3) (v := .pointer (some ⟨lb, lo, none⟩)) rfl (by kernel_rfl) (by kernel_rfl) (by kernel_rfl) (fun _ _ _ h => h) (Or.inl ⟨by rfl, fun w hSw => by obtain ⟨hS1, hS2⟩ := hSw; go_simp⟩) (by assumption) ?_
      simp only [List.getElem_toArray, List.getElem_cons_succ, List.getElem_cons_zero, Act.put, List.setIfInBounds_toArray, List.set_cons_zero, List.set_cons_succ]
      refine wpAnyH_take (i := 4) (v := .int .i64 (f0 : Int)) rfl (by kernel_rfl) (by kernel_rfl) (by kernel_rfl) (fun _ _ _ h => h) (Or.inl ⟨by rfl, fun w hSw => by obtain ⟨hS1, hS2⟩ := hSw; go_simp⟩) (by assumption) ?_
      simp only [List.getElem_toArray, List.getElem_cons_succ, List.getElem_cons_zero, Act.put, List.setIfInBounds_toArray, List.set_cons_zero, List.set_cons_succ]
      refine wpAnyH_take (i := 5) (v := .slice (a) n c) rfl (by kernel_rfl) (by kernel_rfl) (by kernel_rfl) (fun _ _ _ h => h) (Or.inl ⟨by rfl, fun w hSw => by obtain ⟨hS1, hS2⟩ := hSw; go_simp⟩) (by assumption) ?_
      simp only [List.getElem_toArray, List.getElem_cons_succ, List.getElem_cons_zero, Act.put, List.setIfInBounds_toArray, List.set_cons_zero, List.set_cons_succ]
      refine wpAnyH_take (i := 6) (v := .int .i64 (n : Int)) rfl (by kernel_rfl) (by kernel_rfl) (by kernel_rfl) (fun _ _ _ h => h) (Or.inl ⟨by rfl, fun w hSw => by obtain ⟨hS1, hS2⟩ := hSw; go_simp⟩) (by assumption) ?_
      simp only [List.getElem_toArray, List.getElem_cons_succ, List.getElem_cons_zero, Act.put, List.setIfInBounds_toArray, List.set_cons_zero, List.set_cons_succ]
      refine wpAnyH_take (i := 7) (v := .agg rV.toArray) rfl (by kernel_rfl) (by kernel_rfl) (by kernel_rfl) (fun _ _ _ h => h) (yields_build3 (by rfl) 26 (.tmp 53) (.tmp 56) (.tmp 58) rfl rfl rfl rfl (fun W => unhide HBR W)) (by assumption) ?_
      simp only [List.getElem_toArray, List.getElem_cons_succ, List.getElem_cons_zero, Act.put, List.setIfInBounds_toArray, List.set_cons_zero, List.set_cons_succ]
      refine wpAnyH_take (i := 8) (v := .slice (oa) i oc) rfl (by kernel_rfl) (by kernel_rfl) (by kernel_rfl) (fun _ _ _ h => h) (Or.inl ⟨by rfl, fun w hSw => by obtain ⟨hS1, hS2⟩ := hSw; go_simp⟩) (by assumption) ?_
      simp only [List.getElem_toArray, List.getElem_cons_succ, List.getElem_cons_zero, Act.put, List.setIfInBounds_toArray, List.set_cons_zero, List.set_cons_succ]
      refine wpAnyH_ready (rs := [9]) (by kernel_rfl) (by simp) (AllReadyH.cons rfl (fun K hK => ?_) AllReadyH.nil)
      refine step_storeArr (by rfl) (.tmp 5) (.tmp 59) 26 rfl rfl rfl hAR2 hiR hzl h1R ?_
      intro w6 hA6 hWr6
      have hS6 : w6.rangeAt gH 0 KV ∧ w6.cell? ⟨lb, lo, none⟩ = some (.int .i64 (f0 : Int)) := unhide HRW w6 hWr6
      refine hK.out _ _ (hS6) (fun hJ3 => ?_)
      clear hK K
      simp only [List.getElem_toArray, List.getElem_cons_succ, List.getElem_cons_zero, Act.put]
      refine wpAnyH_done (by kernel_rfl) ?_ _
      go_wp2
      obtain ⟨k1, k2⟩ := unhide HFIN w6 hWr6
      refine bodyPost_ret (v := .tuple #[.slice oa i oc, .agg rV.toArray]) (results_ref2 rfl rfl rfl (unhide HLD _ hA6)) rfl ?_
      exact ⟨_, us, rfl, k1, k2⟩
end Go.Proofs.YtdafiobonhikiaaDoor
