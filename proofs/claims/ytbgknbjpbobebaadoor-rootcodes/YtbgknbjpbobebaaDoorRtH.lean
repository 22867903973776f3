/- The document's within, refs, number, Ref and Sum. -/
import Derived.Test.YtbgknbjpbobebaaDoorRtC
import Derived.Test.YtbgknbjpbobebaaDoorRefSum
namespace Go.Proofs.YtbgknbjpbobebaaDoor
open Go.RowKit Go.Maps

set_option maxRecDepth 100000 in
set_option maxHeartbeats 1000000 in
theorem rwithin_calls (w : World) (v lo hi : Int) : Calls Tryd.prog 61 #[.int .i64 v, .int .i64 lo, .int .i64 hi] w fun e w' => e = .returned (.bool (decide (lo ≤ v ∧ v ≤ hi))) ∧ w' = w := by
  by_cases h1 : lo ≤ v
  · by_cases h2 : v ≤ hi
    · have HR : Hid (decide (lo ≤ v ∧ v ≤ hi) = true) := hide (by simp [h1, h2])
      go_enter Tryd.func61, Tryd.ntmps61
      go_wp2
      go_ret
      exact ⟨by first | rfl | (rw [HR.out]; rfl), rfl⟩
    · have HR : Hid (decide (lo ≤ v ∧ v ≤ hi) = false) := hide (by simp [h2])
      have d2 : decide (v ≤ hi) = false := by simpa using h2
      go_enter Tryd.func61, Tryd.ntmps61
      go_wp2
      go_ret
      exact ⟨by first | rfl | (rw [HR.out]; rfl), rfl⟩
  · have HR : Hid (decide (lo ≤ v ∧ v ≤ hi) = false) := hide (by simp [h1])
    have d1 : decide (lo ≤ v) = false := by simpa using h1
    go_enter Tryd.func61, Tryd.ntmps61
    go_wp2
    go_ret
    exact ⟨by first | rfl | (rw [HR.out]; rfl), rfl⟩
set_option maxRecDepth 100000 in
set_option maxHeartbeats 2000000 in
theorem rrefs_calls18 {w : World} {s : SL} {r : JF} (hr : r.Ok) (h0 : 2 ≤ s.sc) (h1 : s.sc ≤ 65536) (h2 : 8 ≤ s.j) (h3 : s.j ≤ 1024) :
    Calls Tryd.prog 62 #[.agg (slV s).toArray, .agg (jfV r).toArray] w fun e w' => e = .returned (.bool (fitB s.sc s.j r.f r.l)) ∧ Below w.heap.size w w' := by
  have HF : Hid (∀ w1 w2, Arr w1 w.heap.size 27 (slV s) → Below w.heap.size w w1 → w1.heap.size = w.heap.size + 1 → Arr w2 w1.heap.size 25 (jfV r) → Below w1.heap.size w1 w2 → (w2.cell? ⟨w.heap.size, 0, none⟩ = some (.int .i64 s.sc) ∧ w2.cell? ⟨w.heap.size, 1, none⟩ = some (.int .i64 s.j) ∧ w2.cell? ⟨w1.heap.size, 32, none⟩ = some (.int .i64 r.f) ∧ w2.cell? ⟨w1.heap.size, 33, none⟩ = some (.int .i64 r.l)) ∧ Below w.heap.size w w2) := hide (fun w1 w2 hA1 hb1 _ hA2 hb2 => by
    obtain ⟨e0, e1, _⟩ := slV_at s
    obtain ⟨c1, c2⟩ := jfV_f hr.len
    exact ⟨⟨((hA1.below hb2).cell 0).trans e0, ((hA1.below hb2).cell 1).trans e1, (hA2.cell 32).trans c1, (hA2.cell 33).trans c2⟩, below_then hb1 hb2⟩)
  have HR : Hid (fitB s.sc s.j r.f r.l = (decide (2 + s.j ≤ r.f ∧ r.f ≤ s.sc - 1) && decide (0 ≤ r.l ∧ r.l ≤ 1048576))) := hide (by unfold fitB; congr)
  generalize fitB s.sc s.j r.f r.l = FB at *
  generalize slV s = cs1 at *
  generalize jfV r = cs2 at *
  generalize s.sc = x0 at *
  generalize s.j = x1 at *
  generalize r.f = f at *
  generalize r.l = l at *
  clear hr
  have ea : IntKind.i64.wrap (2 + x1) = 2 + x1 := IntWalk.i64_in _ (by omega)
  have eb : IntKind.i64.wrap (x0 - 1) = x0 - 1 := IntWalk.i64_in _ (by omega)
  obtain ⟨lo, hlo⟩ : ∃ lo, lo = 2 + x1 := ⟨_, rfl⟩
  obtain ⟨hi, hhi⟩ : ∃ lo, lo = x0 - 1 := ⟨_, rfl⟩
  rw [← hlo] at HR
  rw [← hhi] at HR
  have HW : Hid (∀ W, Calls Tryd.prog 61 #[.int .i64 f, .int .i64 lo, .int .i64 hi] W fun e w' => e = .returned (.bool (decide (lo ≤ f ∧ f ≤ hi))) ∧ w' = W) := hide (fun W => rwithin_calls W f lo hi)
  have HW2 : Hid (∀ W, Calls Tryd.prog 61 #[.int .i64 l, .int .i64 0, .int .i64 1048576] W fun e w' => e = .returned (.bool (decide (0 ≤ l ∧ l ≤ 1048576))) ∧ w' = W) := hide (fun W => rwithin_calls W l 0 1048576)
  have ea' : 2 + x1 = lo := hlo.symm
  have eb' : x0 - 1 = hi := hhi.symm
  clear hlo hhi
  generalize decide (lo ≤ f ∧ f ≤ hi) = p at *
  generalize decide (0 ≤ l ∧ l ≤ 1048576) = q at *
  go_enter Tryd.func62, Tryd.ntmps62
  go_wp2_with (first
    | (refine wpList_boxJ rfl 27 (.tmp 0) rfl rfl ?_; intro w1 hA1 hb1 hs1)
    | (refine wpList_boxJ rfl 25 (.tmp 1) rfl rfl ?_; intro w2 hA2 hb2 hs2
       obtain ⟨⟨c0, c1, c2, c3⟩, hbb⟩ := unhide HF w1 w2 hA1 hb1 hs1 hA2 hb2
       have HBB := hide hbb
       clear hA1 hb1 hs1 hA2 hb2 hs2 hbb)
    | fail)
  refine (unhide HW _).mono ?_
  rintro e w3 ⟨rfl, hw3⟩
  obtain rfl := hw3.symm
  clear hw3
  cases p with
  | false =>
    go_wp2
    go_ret
    exact ⟨by rw [HR.out]; rfl, HBB.out⟩
  | true =>
    go_wp2_with fail
    refine (unhide HW2 _).mono ?_
    rintro e w3 ⟨rfl, hw3⟩
    obtain rfl := hw3.symm
    clear hw3
    go_wp2
    go_ret
    exact ⟨by rw [HR.out]; rfl, HBB.out⟩
theorem fB_snocS (V : Int) (k : Nat) : fB V (k + 1) = fB V k ++ [V / 2 ^ (8 * k) % 256] := by
  unfold fB
  rw [List.range_succ, List.map_append]
  rfl
theorem refSumS_calls {w : World} {v : Value} {xs : List Int} (h : IsB w v xs) :
    Calls Tryd.prog 41 #[v] w fun e w' => e = .returned (.int .u32 (sumOf [xs])) ∧ Below w.heap.size w w' := by
  obtain ⟨a, n, c, rfl⟩ := h.shape
  have HS := hide (refSum_calls (isBB_one h))
  have HB := hide ((Below.refl w.heap.size w).alloc (Nat.le_refl _) (.cells #[.slice a n c] 28))
  generalize sumOf [xs] = sm at *
  clear h
  go_enter Tryd.func41, Tryd.ntmps41
  go_wp2_with fail
  refine (unhide HS).mono ?_
  rintro e w1 ⟨rfl, hw1⟩
  obtain rfl := hw1.symm
  clear HS
  go_wp2
  go_ret
  exact ⟨rfl, HB.out⟩
theorem numS_step (V : Int) {k n : Nat} (hk : k < n) : (fB V k ++ List.replicate (n - k) 0).set k (V / 2 ^ (8 * k) % 256) = fB V (k + 1) ++ List.replicate (n - (k + 1)) 0 := by
  rw [List.set_append_right _ _ (by rw [fB_len]; exact Nat.le_refl _), fB_len, Nat.sub_self, fB_snocS, show n - k = (n - (k + 1)) + 1 by omega, List.replicate_succ, List.set_cons_zero, List.append_assoc]
  rfl
set_option maxRecDepth 100000 in
set_option maxHeartbeats 1000000 in
theorem rnum_calls {w : World} {V : Int} {n : Nat} (_h0 : 0 ≤ V) (_hV : V ≤ 9223372036854775807) (h1 : 1 ≤ n) (h8 : n ≤ 8) :
    Calls Tryd.prog 39 #[.int .i64 V, .int .i64 (n : Int)] w fun e w' => ∃ v, e = .returned v ∧ Own8 w' w.heap.size v (fB V n) ∧ Below w.heap.size w w' := by
  obtain ⟨i0, hi, hz0, hz1, hz2⟩ := info_parts info8
  go_enter Tryd.func39, Tryd.ntmps39
  go_wp2_with (at_make; refine wpList_make_full _ rfl _ _ 28 rfl w.heap.size 5 i0 (.int .u8 0) 1 Tryd.underlying28 hi hz0 hz1 _ _ _ _ n rfl rfl rfl rfl (by rw [hz2]; omega) (by unfold maxLen; omega) (Nat.le_refl _) ?_; intro w1 hr1 hg1)
  have ho1 : Own8 w1 w.heap.size (.slice (some ⟨w.heap.size, 0, none⟩) n n) (List.replicate n 0) := by
    refine ⟨?_, By8.zero n⟩
    have e : (madeCells (Value.int .u8 0).cells (n * 1)).toList = (List.replicate n (0 : Int)).map (Value.int .u8) := by
      have h : (Value.int .u8 0).cells = #[.int .u8 0] := rfl
      rw [h, Nat.mul_one, toList_madeCells_one, List.map_replicate]
    rw [e] at hr1
    rw [List.length_replicate]
    exact hr1
  have hb1 : Below w.heap.size w w1 := (Below.refl _ _).grown hg1 (Nat.le_refl _) (fun j hj => by cases hj)
  have HO1 : Hid (Own8 w1 w.heap.size (.slice (some ⟨w.heap.size, 0, none⟩) n n) (fB V 0 ++ List.replicate (n - 0) 0)) := hide ho1
  have HB1 := hide hb1
  have HLN : Hid (∀ k, k ≤ n → (fB V k ++ List.replicate (n - k) 0).length = n) := hide (fun k hk => by rw [List.length_append, fB_len, List.length_replicate]; omega)
  have HST : Hid (∀ k, k < n → (fB V k ++ List.replicate (n - k) 0).set k (V / 2 ^ (8 * k) % 256) = fB V (k + 1) ++ List.replicate (n - (k + 1)) 0) := hide (fun k hk => numS_step V hk)
  clear hr1 hg1 ho1 hb1
  go_loopw [6] (fun i W => ∃ k : Nat, k ≤ n ∧ i = .int .i64 k ∧ Hid (Own8 W w.heap.size (.slice (some ⟨w.heap.size, 0, none⟩) n n) (fB V k ++ List.replicate (n - k) 0)) ∧ Hid (Below w.heap.size w W)) (fun i _ => n - (intOf i).toNat)
  case atStart => exact ⟨0, Nat.zero_le _, rfl, HO1, HB1⟩
  case round =>
    clear HO1 HB1
    obtain ⟨k, hk, rfl, HO, HB⟩ := hrel
    by_cases hlt : k < n
    · obtain ⟨g, c, hv, _, _, hBg, hcl, hset⟩ := own8_headS HO.out (by rw [unhide HLN k (by omega)]; omega)
      rw [unhide HLN k (by omega)] at hv hcl hset
      injection hv with e1 e2 e3
      injection e1 with e1
      injection e1 with e1 e4
      subst e1 e3
      obtain ⟨hc0, hfr⟩ := hcl k hlt
      have hs2 := hset k (V / 2 ^ (8 * k) % 256) hlt (by omega) (by omega)
      rw [unhide HST k hlt] at hs2
      have HS2 := hide hs2
      have HB2 : Hid (Below w.heap.size w (wr.setCell ⟨w.heap.size, k, none⟩ (.int .u8 (V / 2 ^ (8 * k) % 256)))) := hide (HB.out.setCell hBg _)
      have hwr : IntKind.i64.wrap (8 * (k : Int)) = 8 * k := IntWalk.i64_in _ (by omega)
      have hwk : IntKind.i64.wrap (k : Int) = (k : Int) := IntWalk.i64_in _ (by omega)
      have hkn : ¬ (8 * (k : Int) < 0) := by omega
      generalize fB V k ++ List.replicate (n - k) 0 = xs at *
      generalize xs.getD k 0 = x0 at *
      clear hset hs2 hcl e2
      go_wp2_with fail
      refine ⟨⟨k + 1, by omega, by go_num, HS2, HB2⟩, ?_⟩
      simp [intOf]
      omega
    · have HKN : Hid (k = n) := hide (by omega)
      have HO9 : Hid (Own8 wr w.heap.size (.slice (some ⟨w.heap.size, 0, none⟩) n n) (fB V n)) := hide (by have := HO.out; rw [HKN.out, Nat.sub_self] at this; simpa using this)
      clear HO
      go_wp2
      go_ret
      exact ⟨_, rfl, HO9.out, HB.out⟩
/-- A key's bytes, so many of them. -/
theorem take_nextS {l : List Int} {k : Nat} (h : k < l.length) : l.take (k + 1) = l.take k ++ [l.getD k 0] := by
  rw [List.take_succ_eq_append_getElem h, List.getD_eq_getElem?_getD, List.getElem?_eq_getElem h]
  rfl
set_option maxRecDepth 100000 in
set_option maxHeartbeats 2000000 in
theorem rRef_calls {w : World} {r : JF} (hr : r.Ok) (h0 : 0 ≤ r.f) (h1 : 0 ≤ r.l) :
    Calls Tryd.prog 40 #[.agg (jfV r).toArray] w fun e w' => ∃ v, e = .returned v ∧ Own8 w' w.heap.size v (r.h ++ fBs 4 [r.f, r.l]) ∧ Below w.heap.size w w' := by
  have HF : Hid (∀ w1, Arr w1 w.heap.size 25 (jfV r) → ∀ W, Below w1.heap.size w1 W → W.cell? ⟨w.heap.size, 32, none⟩ = some (.int .i64 r.f) ∧ W.cell? ⟨w.heap.size, 33, none⟩ = some (.int .i64 r.l) ∧ ∀ k, k < 32 → W.cell? ⟨w.heap.size, k, none⟩ = some (.int .u8 (r.h.getD k 0))) := hide (fun w1 hA W hW => by
    obtain ⟨c1, c2⟩ := jfV_f hr.len
    have hA2 := hA.below hW
    refine ⟨(hA2.cell 32).trans c1, (hA2.cell 33).trans c2, fun k hk => (hA2.cell k).trans ?_⟩
    have hkl : k < r.h.length := by rw [hr.len]; exact hk
    unfold jfV
    rw [List.getElem?_append_left (by rw [List.length_map]; exact hkl), List.getElem?_map, List.getElem?_eq_getElem hkl, List.getD_eq_getElem?_getD, List.getElem?_eq_getElem hkl]
    rfl)
  have HN1 : Hid (∀ W : World, Calls Tryd.prog 39 #[.int .i64 r.f, .int .i64 4] W fun e w' => ∃ v, e = .returned v ∧ Own8 w' W.heap.size v (fB r.f 4) ∧ Below W.heap.size W w') := hide (fun W => rnum_calls (n := 4) h0 hr.fi.2 (by decide) (by decide))
  have HN2 : Hid (∀ W : World, Calls Tryd.prog 39 #[.int .i64 r.l, .int .i64 4] W fun e w' => ∃ v, e = .returned v ∧ Own8 w' W.heap.size v (fB r.l 4) ∧ Below W.heap.size W w') := hide (fun W => rnum_calls (n := 4) h1 hr.le.2 (by decide) (by decide))
  have HLN := hide hr.len
  have HBY := hide hr.by8
  have HND : Hid (r.h ++ fB r.f 4 ++ fB r.l 4 = r.h ++ fBs 4 [r.f, r.l]) := hide (by simp [fBs, List.append_assoc])
  have HNX : Hid (∀ k, k < 32 → r.h.take k ++ [r.h.getD k 0] = r.h.take (k + 1)) := hide (fun k hk => (take_nextS (by rw [hr.len]; exact hk)).symm)
  have HAL : Hid (r.h.take 32 = r.h) := hide (List.take_of_length_le (by rw [hr.len]; exact Nat.le_refl _))
  generalize r.h ++ fBs 4 [r.f, r.l] = RES at *
  generalize jfV r = cs1 at *
  generalize r.f = f at *
  generalize r.l = l at *
  generalize r.h = hh at *
  clear hr h0 h1
  go_enter Tryd.func40, Tryd.ntmps40
  go_wp2_with (first
    | (refine wpList_boxJ rfl 25 (.tmp 0) rfl rfl ?_; intro w1 hA1 hb1 hs1
       have HK := hide (unhide HF w1 hA1)
       have HB1 := hide hb1
       have HE0 : Hid (E8 w1 w1 w1.heap.size (.slice none 0 0) (hh.take 0)) := hide (by rw [List.take_zero]; exact ⟨Own8.nil _ _, Nat.le_refl _, Below.refl _ _⟩)
       clear hA1 hb1 hs1)
    | fail)
  go_loopw [3, 4] (fun bv i W => ∃ (k mm cc : Nat) (a : Option Addr), k ≤ 32 ∧ i = .int .i64 k ∧ bv = .slice a mm cc ∧ Hid (E8 w1 W w1.heap.size bv (hh.take k))) (fun _ i _ => 32 - (intOf i).toNat)
  case atStart => exact ⟨0, _, _, _, by decide, rfl, rfl, HE0⟩
  case round =>
    clear HE0
    obtain ⟨k, mm, cc, a, hk, rfl, rfl, HE⟩ := hrel
    by_cases hlt : k < 32
    · have hcl := (unhide HK wr HE.out.2.2).2.2 k hlt
      have hx := unhide HBY (hh.getD k 0) (getD_mem (by rw [HLN.out]; exact hlt))
      have HX1 := hide (unhide HNX k hlt)
      have hll : (hh.take k).length + [hh.getD k 0].length ≤ 140737488355328 := by simp; omega
      have hba := jalloc_below wr (.cells #[.int .u8 (hh.getD k 0)] 5)
      have HE2 := hide (HE.out.below hba)
      have HI2 := hide (isB_lit wr [hh.getD k 0] (by intro x hx2; rw [List.mem_singleton.1 hx2]; exact hx) (by simp))
      have hkI : (k : Int) < 32 := by omega
      generalize hh.getD k 0 = x at *
      generalize hh.take k = xs at *
      clear HE hx hba
      go_wp2_with (first
        | (at_builtin; refine wpList_appB rfl (.tmp 9) (.tmp 14) rfl rfl HE2.out.1 rfl HI2.out hll HE2.out.2.1 ?_; intro v3 w3 ho3 hg3
           have hE3 := HE2.out.app ho3 hg3
           rw [HX1.out] at hE3
           obtain ⟨a3, n3, c3, rfl⟩ := ho3.shape
           have HE3 := hide hE3
           clear ho3 hg3 hE3 HE2 HI2)
        | fail)
      refine ⟨⟨k + 1, _, _, _, by omega, by go_num, rfl, HE3⟩, ?_⟩
      simp [intOf]
      omega
    · have HK32 : Hid (k = 32) := hide (by omega)
      have HE9 : Hid (E8 w1 wr w1.heap.size (.slice a mm cc) hh) := hide (by have := HE.out; rw [HK32.out, HAL.out] at this; exact this)
      obtain ⟨c1, _, _⟩ := unhide HK wr HE.out.2.2
      have hkI : decide ((k : Int) < 32) = false := by simp; omega
      clear HE
      go_wp2_with fail
      refine (unhide HN1 _).mono ?_
      rintro e w2 ⟨v2, rfl, ho2, hb2⟩
      have hE2 := HE9.out.below hb2
      obtain ⟨_, d1, _⟩ := unhide HK w2 hE2.2.2
      obtain ⟨a2, n2, c2, rfl⟩ := ho2.shape
      have HE2 := hide hE2
      have HI2 := hide ho2.isB
      have hl2 : hh.length + (fB f 4).length ≤ 140737488355328 := by rw [HLN.out, fB_len]; decide
      have hl3 : (hh ++ fB f 4).length + (fB l 4).length ≤ 140737488355328 := by rw [List.length_append, HLN.out, fB_len, fB_len]; decide
      clear HN1 ho2 hb2 hE2 HE9 c1
      go_wp2_with (first
        | (at_builtin; refine wpList_appB rfl (.tmp 16) (.tmp 19) rfl rfl HE2.out.1 rfl HI2.out hl2 HE2.out.2.1 ?_; intro v3 w3 ho3 hg3
           have hE3 := HE2.out.app ho3 hg3
           obtain ⟨_, f1, _⟩ := unhide HK w3 hE3.2.2
           obtain ⟨a3, n3, c3, rfl⟩ := ho3.shape
           have HE3 := hide hE3
           clear ho3 hg3 hE3 HE2 HI2 d1)
        | fail)
      refine (unhide HN2 _).mono ?_
      rintro e w4 ⟨v4, rfl, ho4, hb4⟩
      have hE4 := HE3.out.below hb4
      obtain ⟨a4, n4, c4, rfl⟩ := ho4.shape
      have HE4 := hide hE4
      have HI4 := hide ho4.isB
      clear HN2 ho4 hb4 hE4 HE3 f1
      go_wp2_with (first
        | (at_builtin; refine wpList_appB rfl (.tmp 21) (.tmp 24) rfl rfl HE4.out.1 rfl HI4.out hl3 HE4.out.2.1 ?_; intro v5 w5 ho5 hg5
           have hE5 := HE4.out.app ho5 hg5
           rw [HND.out] at hE5
           have HO5 := hide (hE5.1.mono HB1.out.size)
           have HB5 := hide (HB1.out.trans (hE5.2.2.mono HB1.out.size))
           obtain ⟨a5, n5, c5, rfl⟩ := ho5.shape
           clear ho5 hg5 hE5 HE4 HI4)
        | fail)
      go_ret
      exact ⟨_, rfl, HO5.out, HB5.out⟩
end Go.Proofs.YtbgknbjpbobebaaDoor
