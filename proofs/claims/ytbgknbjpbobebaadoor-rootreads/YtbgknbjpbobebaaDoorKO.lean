/- The document's within, refs, number, Ref and Sum. The document's May. The document's Encode. The document's read, key, ref and Decode. -/
import Derived.Test.YtbgknbjpbobebaaDoorRtC
import Derived.Test.YtbgknbjpbobebaaDoorKN
namespace Go.Proofs.YtbgknbjpbobebaaDoor
open Go.RowKit Go.Maps

set_option maxRecDepth 100000 in
set_option maxHeartbeats 1000000 in
theorem rwithin_calls (w : World) (v lo hi : Int) : Calls Tryd.prog 61 #[.int .i64 v, .int .i64 lo, .int .i64 hi] w fun e w' => e = .returned (.bool (decide (lo ≤ v ∧ v ≤ hi))) ∧ w' = w := by
  by_cases h1 : lo ≤ v
  · by_cases h2 : v ≤ hi
    · have HR : Hid (decide (lo ≤ v ∧ v ≤ hi) = true) := hide (by simp [h1, h2])
      go_enter Tryd.func61, Tryd.ntmps61
      go_wp2
      go_ret
      exact ⟨by first | rfl | (rw [HR.out]; rfl), rfl⟩
    · have HR : Hid (decide (lo ≤ v ∧ v ≤ hi) = false) := hide (by simp [h2])
      have d2 : decide (v ≤ hi) = false := by simpa using h2
      go_enter Tryd.func61, Tryd.ntmps61
      go_wp2
      go_ret
      exact ⟨by first | rfl | (rw [HR.out]; rfl), rfl⟩
  · have HR : Hid (decide (lo ≤ v ∧ v ≤ hi) = false) := hide (by simp [h1])
    have d1 : decide (lo ≤ v) = false := by simpa using h1
    go_enter Tryd.func61, Tryd.ntmps61
    go_wp2
    go_ret
    exact ⟨by first | rfl | (rw [HR.out]; rfl), rfl⟩
set_option maxRecDepth 100000 in
set_option maxHeartbeats 2000000 in
theorem rrefs_calls18 {w : World} {s : SL} {r : JF} (hr : r.Ok) (h0 : 2 ≤ s.sc) (h1 : s.sc ≤ 65536) (h2 : 8 ≤ s.j) (h3 : s.j ≤ 1024) :
    Calls Tryd.prog 62 #[.agg (slV s).toArray, .agg (jfV r).toArray] w fun e w' => e = .returned (.bool (fitB s.sc s.j r.f r.l)) ∧ Below w.heap.size w w' := by
  have HF : Hid (∀ w1 w2, Arr w1 w.heap.size 27 (slV s) → Below w.heap.size w w1 → w1.heap.size = w.heap.size + 1 → Arr w2 w1.heap.size 25 (jfV r) → Below w1.heap.size w1 w2 → (w2.cell? ⟨w.heap.size, 0, none⟩ = some (.int .i64 s.sc) ∧ w2.cell? ⟨w.heap.size, 1, none⟩ = some (.int .i64 s.j) ∧ w2.cell? ⟨w1.heap.size, 32, none⟩ = some (.int .i64 r.f) ∧ w2.cell? ⟨w1.heap.size, 33, none⟩ = some (.int .i64 r.l)) ∧ Below w.heap.size w w2) := hide (fun w1 w2 hA1 hb1 _ hA2 hb2 => by
    obtain ⟨e0, e1, _⟩ := slV_at s
    obtain ⟨c1, c2⟩ := jfV_f hr.len
    exact ⟨⟨((hA1.below hb2).cell 0).trans e0, ((hA1.below hb2).cell 1).trans e1, (hA2.cell 32).trans c1, (hA2.cell 33).trans c2⟩, below_then hb1 hb2⟩)
  have HR : Hid (fitB s.sc s.j r.f r.l = (decide (2 + s.j ≤ r.f ∧ r.f ≤ s.sc - 1) && decide (0 ≤ r.l ∧ r.l ≤ 1048576))) := hide rfl
  generalize fitB s.sc s.j r.f r.l = FB at *
  generalize slV s = cs1 at *
  generalize jfV r = cs2 at *
  generalize s.sc = x0 at *
  generalize s.j = x1 at *
  generalize r.f = f at *
  generalize r.l = l at *
  clear hr
  have ea : IntKind.i64.wrap (2 + x1) = 2 + x1 := IntWalk.i64_in _ (by omega)
  have eb : IntKind.i64.wrap (x0 - 1) = x0 - 1 := IntWalk.i64_in _ (by omega)
  obtain ⟨lo, hlo⟩ : ∃ lo, lo = 2 + x1 := ⟨_, rfl⟩
  obtain ⟨hi, hhi⟩ : ∃ lo, lo = x0 - 1 := ⟨_, rfl⟩
  rw [← hlo] at HR
  rw [← hhi] at HR
  have HW : Hid (∀ W, Calls Tryd.prog 61 #[.int .i64 f, .int .i64 lo, .int .i64 hi] W fun e w' => e = .returned (.bool (decide (lo ≤ f ∧ f ≤ hi))) ∧ w' = W) := hide (fun W => rwithin_calls W f lo hi)
  have HW2 : Hid (∀ W, Calls Tryd.prog 61 #[.int .i64 l, .int .i64 0, .int .i64 1048576] W fun e w' => e = .returned (.bool (decide (0 ≤ l ∧ l ≤ 1048576))) ∧ w' = W) := hide (fun W => rwithin_calls W l 0 1048576)
  have ea' : 2 + x1 = lo := hlo.symm
  have eb' : x0 - 1 = hi := hhi.symm
  clear hlo hhi
  generalize decide (lo ≤ f ∧ f ≤ hi) = p at *
  generalize decide (0 ≤ l ∧ l ≤ 1048576) = q at *
  go_enter Tryd.func62, Tryd.ntmps62
  go_wp2_with (first
    | (refine wpList_boxJ rfl 27 (.tmp 0) rfl rfl ?_; intro w1 hA1 hb1 hs1)
    | (refine wpList_boxJ rfl 25 (.tmp 1) rfl rfl ?_; intro w2 hA2 hb2 hs2
       obtain ⟨⟨c0, c1, c2, c3⟩, hbb⟩ := unhide HF w1 w2 hA1 hb1 hs1 hA2 hb2
       have HBB := hide hbb
       clear hA1 hb1 hs1 hA2 hb2 hs2 hbb)
    | fail)
  refine (unhide HW _).mono ?_
  rintro e w3 ⟨rfl, hw3⟩
  obtain rfl := hw3.symm
  clear hw3
  cases p with
  | false =>
    go_wp2
    go_ret
    exact ⟨by rw [HR.out]; rfl, HBB.out⟩
  | true =>
    go_wp2_with fail
    refine (unhide HW2 _).mono ?_
    rintro e w3 ⟨rfl, hw3⟩
    obtain rfl := hw3.symm
    clear hw3
    go_wp2
    go_ret
    exact ⟨by rw [HR.out]; rfl, HBB.out⟩
theorem fB_snocS (V : Int) (k : Nat) : fB V (k + 1) = fB V k ++ [V / 2 ^ (8 * k) % 256] := by
  unfold fB
  rw [List.range_succ, List.map_append]
  rfl
theorem refSumS_calls {w : World} {v : Value} {xs : List Int} (h : IsB w v xs) :
    Calls Tryd.prog 41 #[v] w fun e w' => e = .returned (.int .u32 (sumOf [xs])) ∧ Below w.heap.size w w' := by
  obtain ⟨a, n, c, rfl⟩ := h.shape
  have HS := hide (refSum_calls (isBB_one h))
  have HB := hide ((Below.refl w.heap.size w).alloc (Nat.le_refl _) (.cells #[.slice a n c] 28))
  generalize sumOf [xs] = sm at *
  clear h
  go_enter Tryd.func41, Tryd.ntmps41
  go_wp2_with fail
  refine (unhide HS).mono ?_
  rintro e w1 ⟨rfl, hw1⟩
  obtain rfl := hw1.symm
  clear HS
  go_wp2
  go_ret
  exact ⟨rfl, HB.out⟩
theorem numS_step (V : Int) {k n : Nat} (hk : k < n) : (fB V k ++ List.replicate (n - k) 0).set k (V / 2 ^ (8 * k) % 256) = fB V (k + 1) ++ List.replicate (n - (k + 1)) 0 := by
  rw [List.set_append_right _ _ (by rw [fB_len]; exact Nat.le_refl _), fB_len, Nat.sub_self, fB_snocS, show n - k = (n - (k + 1)) + 1 by omega, List.replicate_succ, List.set_cons_zero, List.append_assoc]
  rfl
set_option maxRecDepth 100000 in
set_option maxHeartbeats 1000000 in
theorem rnum_calls {w : World} {V : Int} {n : Nat} (_h0 : 0 ≤ V) (_hV : V ≤ 9223372036854775807) (h1 : 1 ≤ n) (h8 : n ≤ 8) :
    Calls Tryd.prog 39 #[.int .i64 V, .int .i64 (n : Int)] w fun e w' => ∃ v, e = .returned v ∧ Own8 w' w.heap.size v (fB V n) ∧ Below w.heap.size w w' := by
  obtain ⟨i0, hi, hz0, hz1, hz2⟩ := info_parts info8
  go_enter Tryd.func39, Tryd.ntmps39
  go_wp2_with (at_make; refine wpList_make_full _ rfl _ _ 28 rfl w.heap.size 5 i0 (.int .u8 0) 1 Tryd.underlying28 hi hz0 hz1 _ _ _ _ n rfl rfl rfl rfl (by rw [hz2]; omega) (by unfold maxLen; omega) (Nat.le_refl _) ?_; intro w1 hr1 hg1)
  have ho1 : Own8 w1 w.heap.size (.slice (some ⟨w.heap.size, 0, none⟩) n n) (List.replicate n 0) := by
    refine ⟨?_, By8.zero n⟩
    have e : (madeCells (Value.int .u8 0).cells (n * 1)).toList = (List.replicate n (0 : Int)).map (Value.int .u8) := by
      have h : (Value.int .u8 0).cells = #[.int .u8 0] := rfl
      rw [h, Nat.mul_one, toList_madeCells_one, List.map_replicate]
    rw [e] at hr1
    rw [List.length_replicate]
    exact hr1
  have hb1 : Below w.heap.size w w1 := (Below.refl _ _).grown hg1 (Nat.le_refl _) (fun j hj => by cases hj)
  have HO1 : Hid (Own8 w1 w.heap.size (.slice (some ⟨w.heap.size, 0, none⟩) n n) (fB V 0 ++ List.replicate (n - 0) 0)) := hide ho1
  have HB1 := hide hb1
  have HLN : Hid (∀ k, k ≤ n → (fB V k ++ List.replicate (n - k) 0).length = n) := hide (fun k hk => by rw [List.length_append, fB_len, List.length_replicate]; omega)
  have HST : Hid (∀ k, k < n → (fB V k ++ List.replicate (n - k) 0).set k (V / 2 ^ (8 * k) % 256) = fB V (k + 1) ++ List.replicate (n - (k + 1)) 0) := hide (fun k hk => numS_step V hk)
  clear hr1 hg1 ho1 hb1
  go_loopw [6] (fun i W => ∃ k : Nat, k ≤ n ∧ i = .int .i64 k ∧ Hid (Own8 W w.heap.size (.slice (some ⟨w.heap.size, 0, none⟩) n n) (fB V k ++ List.replicate (n - k) 0)) ∧ Hid (Below w.heap.size w W)) (fun i _ => n - (intOf i).toNat)
  case atStart => exact ⟨0, Nat.zero_le _, rfl, HO1, HB1⟩
  case round =>
    clear HO1 HB1
    obtain ⟨k, hk, rfl, HO, HB⟩ := hrel
    by_cases hlt : k < n
    · obtain ⟨g, c, hv, _, _, hBg, hcl, hset⟩ := own8_headS HO.out (by rw [unhide HLN k (by omega)]; omega)
      rw [unhide HLN k (by omega)] at hv hcl hset
      injection hv with e1 e2 e3
      injection e1 with e1
      injection e1 with e1 e4
      subst e1 e3
      obtain ⟨hc0, hfr⟩ := hcl k hlt
      have hs2 := hset k (V / 2 ^ (8 * k) % 256) hlt (by omega) (by omega)
      rw [unhide HST k hlt] at hs2
      have HS2 := hide hs2
      have HB2 : Hid (Below w.heap.size w (wr.setCell ⟨w.heap.size, k, none⟩ (.int .u8 (V / 2 ^ (8 * k) % 256)))) := hide (HB.out.setCell hBg _)
      have hwr : IntKind.i64.wrap (8 * (k : Int)) = 8 * k := IntWalk.i64_in _ (by omega)
      have hwk : IntKind.i64.wrap (k : Int) = (k : Int) := IntWalk.i64_in _ (by omega)
      have hkn : ¬ (8 * (k : Int) < 0) := by omega
      generalize fB V k ++ List.replicate (n - k) 0 = xs at *
      generalize xs.getD k 0 = x0 at *
      clear hset hs2 hcl e2
      go_wp2_with fail
      refine ⟨⟨k + 1, by omega, by go_num, HS2, HB2⟩, ?_⟩
      simp [intOf]
      omega
    · have HKN : Hid (k = n) := hide (by omega)
      have HO9 : Hid (Own8 wr w.heap.size (.slice (some ⟨w.heap.size, 0, none⟩) n n) (fB V n)) := hide (by have := HO.out; rw [HKN.out, Nat.sub_self] at this; simpa using this)
      clear HO
      go_wp2
      go_ret
      exact ⟨_, rfl, HO9.out, HB.out⟩
/-- A key's bytes, so many of them. -/
theorem take_nextS {l : List Int} {k : Nat} (h : k < l.length) : l.take (k + 1) = l.take k ++ [l.getD k 0] := by
  rw [List.take_succ_eq_append_getElem h, List.getD_eq_getElem?_getD, List.getElem?_eq_getElem h]
  rfl
set_option maxRecDepth 100000 in
set_option maxHeartbeats 2000000 in
theorem rRef_calls {w : World} {r : JF} (hr : r.Ok) (h0 : 0 ≤ r.f) (h1 : 0 ≤ r.l) :
    Calls Tryd.prog 40 #[.agg (jfV r).toArray] w fun e w' => ∃ v, e = .returned v ∧ Own8 w' w.heap.size v (r.h ++ fBs 4 [r.f, r.l]) ∧ Below w.heap.size w w' := by
  have HF : Hid (∀ w1, Arr w1 w.heap.size 25 (jfV r) → ∀ W, Below w1.heap.size w1 W → W.cell? ⟨w.heap.size, 32, none⟩ = some (.int .i64 r.f) ∧ W.cell? ⟨w.heap.size, 33, none⟩ = some (.int .i64 r.l) ∧ ∀ k, k < 32 → W.cell? ⟨w.heap.size, k, none⟩ = some (.int .u8 (r.h.getD k 0))) := hide (fun w1 hA W hW => by
    obtain ⟨c1, c2⟩ := jfV_f hr.len
    have hA2 := hA.below hW
    refine ⟨(hA2.cell 32).trans c1, (hA2.cell 33).trans c2, fun k hk => (hA2.cell k).trans ?_⟩
    have hkl : k < r.h.length := by rw [hr.len]; exact hk
    unfold jfV
    rw [List.getElem?_append_left (by rw [List.length_map]; exact hkl), List.getElem?_map, List.getElem?_eq_getElem hkl, List.getD_eq_getElem?_getD, List.getElem?_eq_getElem hkl]
    rfl)
  have HN1 : Hid (∀ W : World, Calls Tryd.prog 39 #[.int .i64 r.f, .int .i64 4] W fun e w' => ∃ v, e = .returned v ∧ Own8 w' W.heap.size v (fB r.f 4) ∧ Below W.heap.size W w') := hide (fun W => rnum_calls (n := 4) h0 hr.fi.2 (by decide) (by decide))
  have HN2 : Hid (∀ W : World, Calls Tryd.prog 39 #[.int .i64 r.l, .int .i64 4] W fun e w' => ∃ v, e = .returned v ∧ Own8 w' W.heap.size v (fB r.l 4) ∧ Below W.heap.size W w') := hide (fun W => rnum_calls (n := 4) h1 hr.le.2 (by decide) (by decide))
  have HLN := hide hr.len
  have HBY := hide hr.by8
  have HND : Hid (r.h ++ fB r.f 4 ++ fB r.l 4 = r.h ++ fBs 4 [r.f, r.l]) := hide (by simp [fBs, List.append_assoc])
  have HNX : Hid (∀ k, k < 32 → r.h.take k ++ [r.h.getD k 0] = r.h.take (k + 1)) := hide (fun k hk => (take_nextS (by rw [hr.len]; exact hk)).symm)
  have HAL : Hid (r.h.take 32 = r.h) := hide (List.take_of_length_le (by rw [hr.len]; exact Nat.le_refl _))
  generalize r.h ++ fBs 4 [r.f, r.l] = RES at *
  generalize jfV r = cs1 at *
  generalize r.f = f at *
  generalize r.l = l at *
  generalize r.h = hh at *
  clear hr h0 h1
  go_enter Tryd.func40, Tryd.ntmps40
  go_wp2_with (first
    | (refine wpList_boxJ rfl 25 (.tmp 0) rfl rfl ?_; intro w1 hA1 hb1 hs1
       have HK := hide (unhide HF w1 hA1)
       have HB1 := hide hb1
       have HE0 : Hid (E8 w1 w1 w1.heap.size (.slice none 0 0) (hh.take 0)) := hide (by rw [List.take_zero]; exact ⟨Own8.nil _ _, Nat.le_refl _, Below.refl _ _⟩)
       clear hA1 hb1 hs1)
    | fail)
  go_loopw [3, 4] (fun bv i W => ∃ (k mm cc : Nat) (a : Option Addr), k ≤ 32 ∧ i = .int .i64 k ∧ bv = .slice a mm cc ∧ Hid (E8 w1 W w1.heap.size bv (hh.take k))) (fun _ i _ => 32 - (intOf i).toNat)
  case atStart => exact ⟨0, _, _, _, by decide, rfl, rfl, HE0⟩
  case round =>
    clear HE0
    obtain ⟨k, mm, cc, a, hk, rfl, rfl, HE⟩ := hrel
    by_cases hlt : k < 32
    · have hcl := (unhide HK wr HE.out.2.2).2.2 k hlt
      have hx := unhide HBY (hh.getD k 0) (getD_mem (by rw [HLN.out]; exact hlt))
      have HX1 := hide (unhide HNX k hlt)
      have hll : (hh.take k).length + [hh.getD k 0].length ≤ 140737488355328 := by simp; omega
      have hba := jalloc_below wr (.cells #[.int .u8 (hh.getD k 0)] 5)
      have HE2 := hide (HE.out.below hba)
      have HI2 := hide (isB_lit wr [hh.getD k 0] (by intro x hx2; rw [List.mem_singleton.1 hx2]; exact hx) (by simp))
      have hkI : (k : Int) < 32 := by omega
      generalize hh.getD k 0 = x at *
      generalize hh.take k = xs at *
      clear HE hx hba
      go_wp2_with (first
        | (at_builtin; refine wpList_appB rfl (.tmp 9) (.tmp 14) rfl rfl HE2.out.1 rfl HI2.out hll HE2.out.2.1 ?_; intro v3 w3 ho3 hg3
           have hE3 := HE2.out.app ho3 hg3
           rw [HX1.out] at hE3
           obtain ⟨a3, n3, c3, rfl⟩ := ho3.shape
           have HE3 := hide hE3
           clear ho3 hg3 hE3 HE2 HI2)
        | fail)
      refine ⟨⟨k + 1, _, _, _, by omega, by go_num, rfl, HE3⟩, ?_⟩
      simp [intOf]
      omega
    · have HK32 : Hid (k = 32) := hide (by omega)
      have HE9 : Hid (E8 w1 wr w1.heap.size (.slice a mm cc) hh) := hide (by have := HE.out; rw [HK32.out, HAL.out] at this; exact this)
      obtain ⟨c1, _, _⟩ := unhide HK wr HE.out.2.2
      have hkI : decide ((k : Int) < 32) = false := by simp; omega
      clear HE
      go_wp2_with fail
      refine (unhide HN1 _).mono ?_
      rintro e w2 ⟨v2, rfl, ho2, hb2⟩
      have hE2 := HE9.out.below hb2
      obtain ⟨_, d1, _⟩ := unhide HK w2 hE2.2.2
      obtain ⟨a2, n2, c2, rfl⟩ := ho2.shape
      have HE2 := hide hE2
      have HI2 := hide ho2.isB
      have hl2 : hh.length + (fB f 4).length ≤ 140737488355328 := by rw [HLN.out, fB_len]; decide
      have hl3 : (hh ++ fB f 4).length + (fB l 4).length ≤ 140737488355328 := by rw [List.length_append, HLN.out, fB_len, fB_len]; decide
      clear HN1 ho2 hb2 hE2 HE9 c1
      go_wp2_with (first
        | (at_builtin; refine wpList_appB rfl (.tmp 16) (.tmp 19) rfl rfl HE2.out.1 rfl HI2.out hl2 HE2.out.2.1 ?_; intro v3 w3 ho3 hg3
           have hE3 := HE2.out.app ho3 hg3
           obtain ⟨_, f1, _⟩ := unhide HK w3 hE3.2.2
           obtain ⟨a3, n3, c3, rfl⟩ := ho3.shape
           have HE3 := hide hE3
           clear ho3 hg3 hE3 HE2 HI2 d1)
        | fail)
      refine (unhide HN2 _).mono ?_
      rintro e w4 ⟨v4, rfl, ho4, hb4⟩
      have hE4 := HE3.out.below hb4
      obtain ⟨a4, n4, c4, rfl⟩ := ho4.shape
      have HE4 := hide hE4
      have HI4 := hide ho4.isB
      clear HN2 ho4 hb4 hE4 HE3 f1
      go_wp2_with (first
        | (at_builtin; refine wpList_appB rfl (.tmp 21) (.tmp 24) rfl rfl HE4.out.1 rfl HI4.out hl3 HE4.out.2.1 ?_; intro v5 w5 ho5 hg5
           have hE5 := HE4.out.app ho5 hg5
           rw [HND.out] at hE5
           have HO5 := hide (hE5.1.mono HB1.out.size)
           have HB5 := hide (HB1.out.trans (hE5.2.2.mono HB1.out.size))
           obtain ⟨a5, n5, c5, rfl⟩ := ho5.shape
           clear ho5 hg5 hE5 HE4 HI4)
        | fail)
      go_ret
      exact ⟨_, rfl, HO5.out, HB5.out⟩
end Go.Proofs.YtbgknbjpbobebaaDoor

namespace Go.Proofs.YtbgknbjpbobebaaDoor
open Go.RowKit Go.Maps

set_option maxRecDepth 100000 in
set_option maxHeartbeats 8000000 in
theorem rMay_calls {w : World} {s : SL} (hs : s.Ok) : Calls Tryd.prog 38 #[.agg (slV s).toArray] w fun e w' => e = .returned (.bool s.may) ∧ Below w.heap.size w w' := by
  have HF : Hid (∀ w1, Arr w1 w.heap.size 27 (slV s) → (w1.cell? ⟨w.heap.size, 0, none⟩ = some (.int .i64 s.sc) ∧ w1.cell? ⟨w.heap.size, 1, none⟩ = some (.int .i64 s.j) ∧ w1.cell? ⟨w.heap.size, 2, none⟩ = some (.int .i64 s.t) ∧ w1.cell? ⟨w.heap.size, 3, none⟩ = some (.int .i64 s.g) ∧ w1.cell? ⟨w.heap.size, 4, none⟩ = some (.int .i64 s.s))) := hide (fun w1 hA1 => by
    obtain ⟨e0, e1, e2, e3, e4⟩ := slV_at s
    exact ⟨(hA1.cell 0).trans e0, (hA1.cell 1).trans e1, (hA1.cell 2).trans e2, (hA1.cell 3).trans e3, (hA1.cell 4).trans e4⟩)
  have HM1 : Hid (s.may = true → (2 ≤ s.sc ∧ s.sc ≤ 65536) ∧ (8 ≤ s.j ∧ s.j ≤ 1024) ∧ 4 + s.j ≤ s.sc ∧ (0 ≤ s.t ∧ s.t ≤ 1099511627776) ∧ (0 ≤ s.g ∧ s.g ≤ 1099511627776) ∧ (0 ≤ s.s ∧ s.s ≤ 1099511627776)) := hide (fun h => by
    have hm := (SL.may_iff s).1 h
    exact ⟨⟨hm.sc0, hm.sc1⟩, ⟨hm.j0, hm.j1⟩, hm.js, hm.t, hm.g, hm.s⟩)
  have HM2 : Hid ((2 ≤ s.sc ∧ s.sc ≤ 65536) → (8 ≤ s.j ∧ s.j ≤ 1024) → 4 + s.j ≤ s.sc → (0 ≤ s.t ∧ s.t ≤ 1099511627776) → (0 ≤ s.g ∧ s.g ≤ 1099511627776) → (0 ≤ s.s ∧ s.s ≤ 1099511627776) → s.may = (fitB s.sc s.j s.r.f s.r.l && fitB s.sc s.j s.m.f s.m.l)) := hide (fun a b c d e f => may_all a ⟨b.1, by omega⟩ (fun q hq => by
    match q, hq with
    | 0, _ => exact d
    | 1, _ => exact e
    | 2, _ => exact f))
  have HFR : Hid (2 ≤ s.sc → s.sc ≤ 65536 → 8 ≤ s.j → s.j ≤ 1024 → ∀ W, Calls Tryd.prog 62 #[.agg (slV s).toArray, .agg (jfV s.r).toArray] W fun e w' => e = .returned (.bool (fitB s.sc s.j s.r.f s.r.l)) ∧ Below W.heap.size W w') := hide (fun a b c d W => rrefs_calls18 hs.r a b c d)
  have HFM : Hid (2 ≤ s.sc → s.sc ≤ 65536 → 8 ≤ s.j → s.j ≤ 1024 → ∀ W, Calls Tryd.prog 62 #[.agg (slV s).toArray, .agg (jfV s.m).toArray] W fun e w' => e = .returned (.bool (fitB s.sc s.j s.m.f s.m.l)) ∧ Below W.heap.size W w') := hide (fun a b c d W => rrefs_calls18 hs.m a b c d)
  have HRG : Hid (∀ W, Arr W w.heap.size 27 (slV s) → W.rangeAt w.heap.size 0 (slV s) ∧ W.rangeAt w.heap.size 37 (jfV s.r) ∧ W.rangeAt w.heap.size 71 (jfV s.m)) := hide (fun W hA => slot_ranges hs hA)
  have hinf := infoSof hs
  have hinfR := infoJof hs.r
  have hinfM := infoJof hs.m
  generalize s.may = rr at *
  generalize slV s = cs1 at *
  generalize jfV s.r = cr at *
  generalize jfV s.m = cm at *
  generalize fitB s.sc s.j s.r.f s.r.l = p at *
  generalize fitB s.sc s.j s.m.f s.m.l = q at *
  generalize s.sc = x0 at *
  generalize s.j = x1 at *
  generalize s.t = x2 at *
  generalize s.g = x3 at *
  generalize s.s = x4 at *
  clear hs
  by_cases h0 : 2 ≤ x0 ∧ x0 ≤ 65536
  case neg =>
    have HR : Hid (rr = false) := hide (by cases hrr : rr with | false => rfl | true => exact absurd (unhide HM1 hrr) (by omega))
    rw [HR.out]
    have HW0 : Hid (∀ W, Calls Tryd.prog 61 #[.int .i64 x0, .int .i64 2, .int .i64 65536] W fun e w' => e = .returned (.bool false) ∧ w' = W) := hide (fun W => by have := rwithin_calls W x0 2 65536; rw [decide_eq_false h0] at this; exact this)
    clear h0 HM1 HM2 HFR HFM
    go_enter Tryd.func38, Tryd.ntmps38
    go_wp2_with (first
      | (refine wpList_boxJ rfl 27 (.tmp 0) rfl rfl ?_; intro w1 hA1 hb1 hs1
         obtain ⟨c0, c1, c2, c3, c4⟩ := unhide HF w1 hA1
         obtain ⟨hr0, hr1, hr2⟩ := unhide HRG w1 hA1
         have HA1 := hide hA1
         have HB1 := hide hb1
         clear hA1 hb1 hs1)
      | fail)
    refine (unhide HW0 _).mono ?_
    rintro e wx ⟨rfl, hwx⟩
    obtain rfl := hwx.symm
    clear hwx
    go_wp2
    go_ret
    exact ⟨rfl, HB1.out⟩
  by_cases h1 : 8 ≤ x1 ∧ x1 ≤ 1024
  case neg =>
    have HR : Hid (rr = false) := hide (by cases hrr : rr with | false => rfl | true => exact absurd (unhide HM1 hrr) (by omega))
    rw [HR.out]
    have HW0 : Hid (∀ W, Calls Tryd.prog 61 #[.int .i64 x0, .int .i64 2, .int .i64 65536] W fun e w' => e = .returned (.bool true) ∧ w' = W) := hide (fun W => by have := rwithin_calls W x0 2 65536; rw [decide_eq_true h0] at this; exact this)
    have HW1 : Hid (∀ W, Calls Tryd.prog 61 #[.int .i64 x1, .int .i64 8, .int .i64 1024] W fun e w' => e = .returned (.bool false) ∧ w' = W) := hide (fun W => by have := rwithin_calls W x1 8 1024; rw [decide_eq_false h1] at this; exact this)
    clear h0 h1 HM1 HM2 HFR HFM
    go_enter Tryd.func38, Tryd.ntmps38
    go_wp2_with (first
      | (refine wpList_boxJ rfl 27 (.tmp 0) rfl rfl ?_; intro w1 hA1 hb1 hs1
         obtain ⟨c0, c1, c2, c3, c4⟩ := unhide HF w1 hA1
         obtain ⟨hr0, hr1, hr2⟩ := unhide HRG w1 hA1
         have HA1 := hide hA1
         have HB1 := hide hb1
         clear hA1 hb1 hs1)
      | fail)
    refine (unhide HW0 _).mono ?_
    rintro e wx ⟨rfl, hwx⟩
    obtain rfl := hwx.symm
    clear hwx
    go_wp2_with fail
    refine (unhide HW1 _).mono ?_
    rintro e wx ⟨rfl, hwx⟩
    obtain rfl := hwx.symm
    clear hwx
    go_wp2
    go_ret
    exact ⟨rfl, HB1.out⟩
  obtain ⟨y, hy⟩ : ∃ y, 4 + x1 = y := ⟨_, rfl⟩
  have ey : IntKind.i64.wrap y = y := IntWalk.i64_in _ (by omega)
  by_cases h2 : x0 < y
  · have HR : Hid (rr = false) := hide (by cases hrr : rr with | false => rfl | true => exact absurd (unhide HM1 hrr) (by omega))
    rw [HR.out]
    have HW0 : Hid (∀ W, Calls Tryd.prog 61 #[.int .i64 x0, .int .i64 2, .int .i64 65536] W fun e w' => e = .returned (.bool true) ∧ w' = W) := hide (fun W => by have := rwithin_calls W x0 2 65536; rw [decide_eq_true h0] at this; exact this)
    have HW1 : Hid (∀ W, Calls Tryd.prog 61 #[.int .i64 x1, .int .i64 8, .int .i64 1024] W fun e w' => e = .returned (.bool true) ∧ w' = W) := hide (fun W => by have := rwithin_calls W x1 8 1024; rw [decide_eq_true h1] at this; exact this)
    have d2 : decide (x0 < y) = true := by simpa using h2
    have HY := hide hy
    clear h0 h1 h2 HM1 HM2 HFR HFM
    go_enter Tryd.func38, Tryd.ntmps38
    go_wp2_with (first
      | (refine wpList_boxJ rfl 27 (.tmp 0) rfl rfl ?_; intro w1 hA1 hb1 hs1
         obtain ⟨c0, c1, c2, c3, c4⟩ := unhide HF w1 hA1
         obtain ⟨hr0, hr1, hr2⟩ := unhide HRG w1 hA1
         have HA1 := hide hA1
         have HB1 := hide hb1
         clear hA1 hb1 hs1)
      | fail)
    refine (unhide HW0 _).mono ?_
    rintro e wx ⟨rfl, hwx⟩
    obtain rfl := hwx.symm
    clear hwx
    go_wp2_with fail
    refine (unhide HW1 _).mono ?_
    rintro e wx ⟨rfl, hwx⟩
    obtain rfl := hwx.symm
    clear hwx
    go_wp2
    go_ret
    exact ⟨rfl, HB1.out⟩
  by_cases h3 : 0 ≤ x2 ∧ x2 ≤ 1099511627776
  case neg =>
    have HR : Hid (rr = false) := hide (by cases hrr : rr with | false => rfl | true => exact absurd (unhide HM1 hrr) (by omega))
    rw [HR.out]
    have HW0 : Hid (∀ W, Calls Tryd.prog 61 #[.int .i64 x0, .int .i64 2, .int .i64 65536] W fun e w' => e = .returned (.bool true) ∧ w' = W) := hide (fun W => by have := rwithin_calls W x0 2 65536; rw [decide_eq_true h0] at this; exact this)
    have HW1 : Hid (∀ W, Calls Tryd.prog 61 #[.int .i64 x1, .int .i64 8, .int .i64 1024] W fun e w' => e = .returned (.bool true) ∧ w' = W) := hide (fun W => by have := rwithin_calls W x1 8 1024; rw [decide_eq_true h1] at this; exact this)
    have d2 : decide (x0 < y) = false := by simpa using h2
    have HW3 : Hid (∀ W, Calls Tryd.prog 61 #[.int .i64 x2, .int .i64 0, .int .i64 1099511627776] W fun e w' => e = .returned (.bool false) ∧ w' = W) := hide (fun W => by have := rwithin_calls W x2 0 1099511627776; rw [decide_eq_false h3] at this; exact this)
    have HY := hide hy
    clear h0 h1 h2 h3 HM1 HM2 HFR HFM
    go_enter Tryd.func38, Tryd.ntmps38
    go_wp2_with (first
      | (refine wpList_boxJ rfl 27 (.tmp 0) rfl rfl ?_; intro w1 hA1 hb1 hs1
         obtain ⟨c0, c1, c2, c3, c4⟩ := unhide HF w1 hA1
         obtain ⟨hr0, hr1, hr2⟩ := unhide HRG w1 hA1
         have HA1 := hide hA1
         have HB1 := hide hb1
         clear hA1 hb1 hs1)
      | fail)
    refine (unhide HW0 _).mono ?_
    rintro e wx ⟨rfl, hwx⟩
    obtain rfl := hwx.symm
    clear hwx
    go_wp2_with fail
    refine (unhide HW1 _).mono ?_
    rintro e wx ⟨rfl, hwx⟩
    obtain rfl := hwx.symm
    clear hwx
    go_wp2_with fail
    refine (unhide HW3 _).mono ?_
    rintro e wx ⟨rfl, hwx⟩
    obtain rfl := hwx.symm
    clear hwx
    go_wp2
    go_ret
    exact ⟨rfl, HB1.out⟩
  by_cases h4 : 0 ≤ x3 ∧ x3 ≤ 1099511627776
  case neg =>
    have HR : Hid (rr = false) := hide (by cases hrr : rr with | false => rfl | true => exact absurd (unhide HM1 hrr) (by omega))
    rw [HR.out]
    have HW0 : Hid (∀ W, Calls Tryd.prog 61 #[.int .i64 x0, .int .i64 2, .int .i64 65536] W fun e w' => e = .returned (.bool true) ∧ w' = W) := hide (fun W => by have := rwithin_calls W x0 2 65536; rw [decide_eq_true h0] at this; exact this)
    have HW1 : Hid (∀ W, Calls Tryd.prog 61 #[.int .i64 x1, .int .i64 8, .int .i64 1024] W fun e w' => e = .returned (.bool true) ∧ w' = W) := hide (fun W => by have := rwithin_calls W x1 8 1024; rw [decide_eq_true h1] at this; exact this)
    have d2 : decide (x0 < y) = false := by simpa using h2
    have HW3 : Hid (∀ W, Calls Tryd.prog 61 #[.int .i64 x2, .int .i64 0, .int .i64 1099511627776] W fun e w' => e = .returned (.bool true) ∧ w' = W) := hide (fun W => by have := rwithin_calls W x2 0 1099511627776; rw [decide_eq_true h3] at this; exact this)
    have HW4 : Hid (∀ W, Calls Tryd.prog 61 #[.int .i64 x3, .int .i64 0, .int .i64 1099511627776] W fun e w' => e = .returned (.bool false) ∧ w' = W) := hide (fun W => by have := rwithin_calls W x3 0 1099511627776; rw [decide_eq_false h4] at this; exact this)
    have HY := hide hy
    clear h0 h1 h2 h3 h4 HM1 HM2 HFR HFM
    go_enter Tryd.func38, Tryd.ntmps38
    go_wp2_with (first
      | (refine wpList_boxJ rfl 27 (.tmp 0) rfl rfl ?_; intro w1 hA1 hb1 hs1
         obtain ⟨c0, c1, c2, c3, c4⟩ := unhide HF w1 hA1
         obtain ⟨hr0, hr1, hr2⟩ := unhide HRG w1 hA1
         have HA1 := hide hA1
         have HB1 := hide hb1
         clear hA1 hb1 hs1)
      | fail)
    refine (unhide HW0 _).mono ?_
    rintro e wx ⟨rfl, hwx⟩
    obtain rfl := hwx.symm
    clear hwx
    go_wp2_with fail
    refine (unhide HW1 _).mono ?_
    rintro e wx ⟨rfl, hwx⟩
    obtain rfl := hwx.symm
    clear hwx
    go_wp2_with fail
    refine (unhide HW3 _).mono ?_
    rintro e wx ⟨rfl, hwx⟩
    obtain rfl := hwx.symm
    clear hwx
    go_wp2_with fail
    refine (unhide HW4 _).mono ?_
    rintro e wx ⟨rfl, hwx⟩
    obtain rfl := hwx.symm
    clear hwx
    go_wp2
    go_ret
    exact ⟨rfl, HB1.out⟩
  by_cases h5 : 0 ≤ x4 ∧ x4 ≤ 1099511627776
  case neg =>
    have HR : Hid (rr = false) := hide (by cases hrr : rr with | false => rfl | true => exact absurd (unhide HM1 hrr) (by omega))
    rw [HR.out]
    have HW0 : Hid (∀ W, Calls Tryd.prog 61 #[.int .i64 x0, .int .i64 2, .int .i64 65536] W fun e w' => e = .returned (.bool true) ∧ w' = W) := hide (fun W => by have := rwithin_calls W x0 2 65536; rw [decide_eq_true h0] at this; exact this)
    have HW1 : Hid (∀ W, Calls Tryd.prog 61 #[.int .i64 x1, .int .i64 8, .int .i64 1024] W fun e w' => e = .returned (.bool true) ∧ w' = W) := hide (fun W => by have := rwithin_calls W x1 8 1024; rw [decide_eq_true h1] at this; exact this)
    have d2 : decide (x0 < y) = false := by simpa using h2
    have HW3 : Hid (∀ W, Calls Tryd.prog 61 #[.int .i64 x2, .int .i64 0, .int .i64 1099511627776] W fun e w' => e = .returned (.bool true) ∧ w' = W) := hide (fun W => by have := rwithin_calls W x2 0 1099511627776; rw [decide_eq_true h3] at this; exact this)
    have HW4 : Hid (∀ W, Calls Tryd.prog 61 #[.int .i64 x3, .int .i64 0, .int .i64 1099511627776] W fun e w' => e = .returned (.bool true) ∧ w' = W) := hide (fun W => by have := rwithin_calls W x3 0 1099511627776; rw [decide_eq_true h4] at this; exact this)
    have HW5 : Hid (∀ W, Calls Tryd.prog 61 #[.int .i64 x4, .int .i64 0, .int .i64 1099511627776] W fun e w' => e = .returned (.bool false) ∧ w' = W) := hide (fun W => by have := rwithin_calls W x4 0 1099511627776; rw [decide_eq_false h5] at this; exact this)
    have HY := hide hy
    clear h0 h1 h2 h3 h4 h5 HM1 HM2 HFR HFM
    go_enter Tryd.func38, Tryd.ntmps38
    go_wp2_with (first
      | (refine wpList_boxJ rfl 27 (.tmp 0) rfl rfl ?_; intro w1 hA1 hb1 hs1
         obtain ⟨c0, c1, c2, c3, c4⟩ := unhide HF w1 hA1
         obtain ⟨hr0, hr1, hr2⟩ := unhide HRG w1 hA1
         have HA1 := hide hA1
         have HB1 := hide hb1
         clear hA1 hb1 hs1)
      | fail)
    refine (unhide HW0 _).mono ?_
    rintro e wx ⟨rfl, hwx⟩
    obtain rfl := hwx.symm
    clear hwx
    go_wp2_with fail
    refine (unhide HW1 _).mono ?_
    rintro e wx ⟨rfl, hwx⟩
    obtain rfl := hwx.symm
    clear hwx
    go_wp2_with fail
    refine (unhide HW3 _).mono ?_
    rintro e wx ⟨rfl, hwx⟩
    obtain rfl := hwx.symm
    clear hwx
    go_wp2_with fail
    refine (unhide HW4 _).mono ?_
    rintro e wx ⟨rfl, hwx⟩
    obtain rfl := hwx.symm
    clear hwx
    go_wp2_with fail
    refine (unhide HW5 _).mono ?_
    rintro e wx ⟨rfl, hwx⟩
    obtain rfl := hwx.symm
    clear hwx
    go_wp2
    go_ret
    exact ⟨rfl, HB1.out⟩
  have HR : Hid (rr = (p && q)) := hide (unhide HM2 h0 h1 (by omega) h3 h4 h5)
  have HF1 := hide (unhide HFR h0.1 h0.2 h1.1 h1.2)
  have HF2 := hide (unhide HFM h0.1 h0.2 h1.1 h1.2)
  rw [HR.out]
  have HW0 : Hid (∀ W, Calls Tryd.prog 61 #[.int .i64 x0, .int .i64 2, .int .i64 65536] W fun e w' => e = .returned (.bool true) ∧ w' = W) := hide (fun W => by have := rwithin_calls W x0 2 65536; rw [decide_eq_true h0] at this; exact this)
  have HW1 : Hid (∀ W, Calls Tryd.prog 61 #[.int .i64 x1, .int .i64 8, .int .i64 1024] W fun e w' => e = .returned (.bool true) ∧ w' = W) := hide (fun W => by have := rwithin_calls W x1 8 1024; rw [decide_eq_true h1] at this; exact this)
  have d2 : decide (x0 < y) = false := by simpa using h2
  have HW3 : Hid (∀ W, Calls Tryd.prog 61 #[.int .i64 x2, .int .i64 0, .int .i64 1099511627776] W fun e w' => e = .returned (.bool true) ∧ w' = W) := hide (fun W => by have := rwithin_calls W x2 0 1099511627776; rw [decide_eq_true h3] at this; exact this)
  have HW4 : Hid (∀ W, Calls Tryd.prog 61 #[.int .i64 x3, .int .i64 0, .int .i64 1099511627776] W fun e w' => e = .returned (.bool true) ∧ w' = W) := hide (fun W => by have := rwithin_calls W x3 0 1099511627776; rw [decide_eq_true h4] at this; exact this)
  have HW5 : Hid (∀ W, Calls Tryd.prog 61 #[.int .i64 x4, .int .i64 0, .int .i64 1099511627776] W fun e w' => e = .returned (.bool true) ∧ w' = W) := hide (fun W => by have := rwithin_calls W x4 0 1099511627776; rw [decide_eq_true h5] at this; exact this)
  have HY := hide hy
  clear h0 h1 h2 h3 h4 h5 HM1 HM2 HFR HFM
  go_enter Tryd.func38, Tryd.ntmps38
  go_wp2_with (first
    | (refine wpList_boxJ rfl 27 (.tmp 0) rfl rfl ?_; intro w1 hA1 hb1 hs1
       obtain ⟨c0, c1, c2, c3, c4⟩ := unhide HF w1 hA1
       obtain ⟨hr0, hr1, hr2⟩ := unhide HRG w1 hA1
       have HA1 := hide hA1
       have HB1 := hide hb1
       clear hA1 hb1 hs1)
    | fail)
  refine (unhide HW0 _).mono ?_
  rintro e wx ⟨rfl, hwx⟩
  obtain rfl := hwx.symm
  clear hwx
  go_wp2_with fail
  refine (unhide HW1 _).mono ?_
  rintro e wx ⟨rfl, hwx⟩
  obtain rfl := hwx.symm
  clear hwx
  go_wp2_with fail
  refine (unhide HW3 _).mono ?_
  rintro e wx ⟨rfl, hwx⟩
  obtain rfl := hwx.symm
  clear hwx
  go_wp2_with fail
  refine (unhide HW4 _).mono ?_
  rintro e wx ⟨rfl, hwx⟩
  obtain rfl := hwx.symm
  clear hwx
  go_wp2_with fail
  refine (unhide HW5 _).mono ?_
  rintro e wx ⟨rfl, hwx⟩
  obtain rfl := hwx.symm
  clear hwx
  go_wp2_with (first
    | (refine wpList_loadJ rfl 27 (.tmp 1) rfl _ 0 rfl cs1 _ hr0 Tryd.underlying27 rfl hinf ?_)
    | (refine wpList_loadJ rfl 25 (.tmp 38) rfl _ 37 rfl cr _ hr1 Tryd.underlying25 rfl hinfR ?_)
    | fail)
  refine (unhide HF1 _).mono ?_
  rintro e w2 ⟨rfl, hb2⟩
  obtain ⟨ht0, ht1, ht2⟩ := unhide HRG w2 (HA1.out.below hb2)
  have HB2 := hide (below_then HB1.out hb2)
  clear hb2 HF1 hr0 hr1 hr2 c0 c1 c2 c3 c4
  cases p with
  | false =>
    go_wp2
    go_ret
    exact ⟨rfl, HB2.out⟩
  | true =>
    go_wp2_with (first
      | (refine wpList_loadOnS (by rfl) 27 (.tmp 1) rfl _ 0 rfl cs1 _ ht0 Tryd.underlying27 rfl hinf ?_)
      | (refine wpList_loadOnS (by rfl) 25 (.tmp 43) rfl _ 71 rfl cm _ ht2 Tryd.underlying25 rfl hinfM ?_)
      | fail)
    refine (unhide HF2 _).mono ?_
    rintro e w3 ⟨rfl, hb3⟩
    have HB3 := hide (below_then HB2.out hb3)
    clear hb3
    go_wp2
    go_ret
    exact ⟨rfl, HB3.out⟩
end Go.Proofs.YtbgknbjpbobebaaDoor

namespace Go.Proofs.YtbgknbjpbobebaaDoor
open Go.RowKit Go.Maps

theorem own8_litS (W : World) {B : Nat} (hB : B ≤ W.heap.size) {xs : List Int} (hb : By8 xs) (hl : xs.length ≤ 1000) : Own8 (W.alloc (.cells (xs.map (Value.int .u8)).toArray 5)) B (.slice (some ⟨W.heap.size, 0, none⟩) xs.length xs.length) xs := by
  refine ⟨⟨by simp, .inr ⟨W.heap.size, xs.length, (xs.map (Value.int .u8)).toArray, rfl, hB, Arr.new W (xs.map (Value.int .u8)) 5, Nat.le_refl _, by unfold maxLen; omega, by simp, by simp [List.take_of_length_le]⟩⟩, hb⟩
def lenS18 : Value → Nat
  | .slice _ n _ => n
  | _ => 0
theorem rencS_eq (s : SL) : mk4 ++ fB s.sc 4 ++ fB s.j 4 ++ fB s.t 8 ++ fB s.g 8 ++ fB s.s 8 ++ s.k ++ (s.r.h ++ fBs 4 [s.r.f, s.r.l]) ++ (s.m.h ++ fBs 4 [s.m.f, s.m.l]) = sl148 s := by
  simp only [sl148, sl140, sl108, sl100, sl68, sl36, sl12, fBs, List.append_assoc, List.flatMap_cons, List.flatMap_nil, List.append_nil]
set_option maxRecDepth 100000 in
set_option maxHeartbeats 1000000 in
theorem renc_no {w : World} {s : SL} (hs : s.Ok) (hm : ¬ s.May) : Calls Tryd.prog 10 #[.agg (slV s).toArray] w fun e w' => e = .returned (.tuple #[.slice none 0 0, .int .i64 180]) ∧ Below w.heap.size w w' := by
  have HM : Hid (∀ W, Calls Tryd.prog 38 #[.agg (slV s).toArray] W fun e w' => e = .returned (.bool false) ∧ Below W.heap.size W w') := hide (fun W => by have := rMay_calls (w := W) hs; rw [SL.may_no hm] at this; exact this)
  have hinfS := infoSof hs
  generalize slV s = cs1 at *
  clear hs hm
  go_enter Tryd.func10, Tryd.ntmps10
  go_wp2_with (first
    | (refine wpList_boxJ rfl 27 (.tmp 0) rfl rfl ?_; intro w1 hA1 hb1 hs1
       have hrg := hA1.rangeJ
       have HB1 := hide hb1
       clear hA1 hb1 hs1)
    | (refine wpList_loadJ rfl 27 (.tmp 1) rfl _ 0 rfl cs1 _ hrg Tryd.underlying27 rfl hinfS ?_)
    | fail)
  refine (unhide HM _).mono ?_
  rintro e w2 ⟨rfl, hb2⟩
  have HB2 := hide (below_then HB1.out hb2)
  clear hb2
  go_wp2
  go_ret2
  exact ⟨rfl, HB2.out⟩
set_option maxRecDepth 100000 in
set_option maxHeartbeats 8000000 in
theorem renc_good {w : World} {s : SL} (hs : s.Ok) (hm : s.May) : Calls Tryd.prog 10 #[.agg (slV s).toArray] w fun e w' => ∃ u, e = .returned (.tuple #[u, .int .i64 0]) ∧ Own8 w' w.heap.size u (slL s) ∧ Below w.heap.size w w' := by
  have HM : Hid (∀ W, Calls Tryd.prog 38 #[.agg (slV s).toArray] W fun e w' => e = .returned (.bool true) ∧ Below W.heap.size W w') := hide (fun W => by have := rMay_calls (w := W) hs; rw [(SL.may_iff s).2 hm] at this; exact this)
  have HF : Hid (∀ W, Arr W w.heap.size 27 (slV s) → (W.cell? ⟨w.heap.size, 0, none⟩ = some (.int .i64 s.sc) ∧ W.cell? ⟨w.heap.size, 1, none⟩ = some (.int .i64 s.j) ∧ W.cell? ⟨w.heap.size, 2, none⟩ = some (.int .i64 s.t) ∧ W.cell? ⟨w.heap.size, 3, none⟩ = some (.int .i64 s.g) ∧ W.cell? ⟨w.heap.size, 4, none⟩ = some (.int .i64 s.s)) ∧ (∀ k, k < 32 → W.cell? ⟨w.heap.size, 5 + k, none⟩ = some (.int .u8 (s.k.getD k 0))) ∧ W.rangeAt w.heap.size 37 (jfV s.r) ∧ W.rangeAt w.heap.size 71 (jfV s.m)) := hide (fun W hA => by
    obtain ⟨e0, e1, e2, e3, e4⟩ := slV_at s
    obtain ⟨_, q1, q2⟩ := slot_ranges hs hA
    refine ⟨⟨(hA.cell 0).trans e0, (hA.cell 1).trans e1, (hA.cell 2).trans e2, (hA.cell 3).trans e3, (hA.cell 4).trans e4⟩, fun k hk => (hA.cell _).trans ((slV_k hs).1 k _ ?_), q1, q2⟩
    have hkl : k < s.k.length := by rw [hs.len]; exact hk
    rw [List.getElem?_map, List.getElem?_eq_getElem hkl, List.getD_eq_getElem?_getD, List.getElem?_eq_getElem hkl]
    rfl)
  have HN0 : Hid (∀ W : World, Calls Tryd.prog 39 #[.int .i64 s.sc, .int .i64 4] W fun e w' => ∃ v, e = .returned v ∧ Own8 w' W.heap.size v (fB s.sc 4) ∧ Below W.heap.size W w') := hide (fun W => rnum_calls (n := 4) (by have := hm.sc0; have := hm.j0; have := hm.t.1; have := hm.g.1; have := hm.s.1; omega) hs.sc.2 (by decide) (by decide))
  have HN1 : Hid (∀ W : World, Calls Tryd.prog 39 #[.int .i64 s.j, .int .i64 4] W fun e w' => ∃ v, e = .returned v ∧ Own8 w' W.heap.size v (fB s.j 4) ∧ Below W.heap.size W w') := hide (fun W => rnum_calls (n := 4) (by have := hm.sc0; have := hm.j0; have := hm.t.1; have := hm.g.1; have := hm.s.1; omega) hs.j.2 (by decide) (by decide))
  have HN2 : Hid (∀ W : World, Calls Tryd.prog 39 #[.int .i64 s.t, .int .i64 8] W fun e w' => ∃ v, e = .returned v ∧ Own8 w' W.heap.size v (fB s.t 8) ∧ Below W.heap.size W w') := hide (fun W => rnum_calls (n := 8) (by have := hm.sc0; have := hm.j0; have := hm.t.1; have := hm.g.1; have := hm.s.1; omega) hs.t.2 (by decide) (by decide))
  have HN3 : Hid (∀ W : World, Calls Tryd.prog 39 #[.int .i64 s.g, .int .i64 8] W fun e w' => ∃ v, e = .returned v ∧ Own8 w' W.heap.size v (fB s.g 8) ∧ Below W.heap.size W w') := hide (fun W => rnum_calls (n := 8) (by have := hm.sc0; have := hm.j0; have := hm.t.1; have := hm.g.1; have := hm.s.1; omega) hs.g.2 (by decide) (by decide))
  have HN4 : Hid (∀ W : World, Calls Tryd.prog 39 #[.int .i64 s.s, .int .i64 8] W fun e w' => ∃ v, e = .returned v ∧ Own8 w' W.heap.size v (fB s.s 8) ∧ Below W.heap.size W w') := hide (fun W => rnum_calls (n := 8) (by have := hm.sc0; have := hm.j0; have := hm.t.1; have := hm.g.1; have := hm.s.1; omega) hs.s.2 (by decide) (by decide))
  have HRF : Hid (∀ W : World, Calls Tryd.prog 40 #[.agg (jfV s.r).toArray] W fun e w' => ∃ v, e = .returned v ∧ Own8 w' W.heap.size v (s.r.h ++ fBs 4 [s.r.f, s.r.l]) ∧ Below W.heap.size W w') := hide (fun W => rRef_calls hs.r (by have := hm.r.1; have := hm.j0; omega) hm.r.2.2.1)
  have HMF : Hid (∀ W : World, Calls Tryd.prog 40 #[.agg (jfV s.m).toArray] W fun e w' => ∃ v, e = .returned v ∧ Own8 w' W.heap.size v (s.m.h ++ fBs 4 [s.m.f, s.m.l]) ∧ Below W.heap.size W w') := hide (fun W => rRef_calls hs.m (by have := hm.m.1; have := hm.j0; omega) hm.m.2.2.1)
  have HLR : Hid ((s.r.h ++ fBs 4 [s.r.f, s.r.l]).length = 40) := hide (by rw [List.length_append, hs.r.len, fBs_len]; rfl)
  have HLM : Hid ((s.m.h ++ fBs 4 [s.m.f, s.m.l]).length = 40) := hide (by rw [List.length_append, hs.m.len, fBs_len]; rfl)
  have H148 := hide (rencS_eq s)
  have HL148 := hide (sl148_len hs)
  have HLB := hide (slB_len hs)
  have HBY := hide (slB_by hs)
  have HLK := hide hs.len
  have HBK := hide hs.by8
  have HSL : Hid (slB s ++ fB (sumOf [slB s]) 4 = slL s) := hide rfl
  have HSB : Hid (sl148 s ++ List.replicate 360 0 = slB s) := hide rfl
  have HNX : Hid (∀ k, k < 32 → s.k.take k ++ [s.k.getD k 0] = s.k.take (k + 1)) := hide (fun k hk => (take_nextS (by rw [hs.len]; exact hk)).symm)
  have HAL : Hid (s.k.take 32 = s.k) := hide (List.take_of_length_le (by rw [hs.len]; exact Nat.le_refl _))
  have HM4 : Hid (mk4.length = 4 ∧ By8 mk4) := hide ⟨rfl, fun x hx => by simp [mk4] at hx; omega⟩
  have HML : Hid (∀ (W : World) (B : Nat), B ≤ W.heap.size → Own8 (W.alloc (.cells #[.int .u8 107, .int .u8 105, .int .u8 108, .int .u8 110] 5)) B (.slice (some ⟨W.heap.size, 0, none⟩) 4 4) mk4) := hide (fun W B hB => own8_litS W hB (xs := mk4) (fun x hx => by simp [mk4] at hx; omega) (by decide))
  have hinfS := infoSof hs
  have hinfR := infoJof hs.r
  have hinfM := infoJof hs.m
  generalize slL s = SLL at *
  generalize slB s = SLB at *
  generalize sl148 s = S148 at *
  generalize slV s = cs1 at *
  generalize jfV s.r = cr at *
  generalize jfV s.m = cm at *
  generalize s.r.h ++ fBs 4 [s.r.f, s.r.l] = RR at *
  generalize s.m.h ++ fBs 4 [s.m.f, s.m.l] = MM at *
  generalize s.k = kk at *
  generalize s.sc = x0 at *
  generalize s.j = x1 at *
  generalize s.t = x2 at *
  generalize s.g = x3 at *
  generalize s.s = x4 at *
  generalize mk4 = M4 at *
  clear hs hm
  go_enter Tryd.func10, Tryd.ntmps10
  go_wp2_with (first
    | (refine wpList_boxJ rfl 27 (.tmp 0) rfl rfl ?_; intro w1 hA1 hb1 hs1
       have hrg := hA1.rangeJ
       have HB1 := hide hb1
       have HA1 := hide hA1
       clear hA1 hb1 hs1)
    | (refine wpList_loadJ rfl 27 (.tmp 1) rfl _ 0 rfl cs1 _ hrg Tryd.underlying27 rfl hinfS ?_)
    | fail)
  refine (unhide HM _).mono ?_
  rintro e w2 ⟨rfl, hb2⟩
  have HB2 := hide (below_then HB1.out hb2)
  have HK := hide (fun W (hW : Below w2.heap.size w2 W) => unhide HF W ((HA1.out.below hb2).below hW))
  have hbl := jalloc_below w2 (.cells #[.int .u8 107, .int .u8 105, .int .u8 108, .int .u8 110] 5)
  have HE0 : Hid (E8 w2 (w2.alloc (.cells #[.int .u8 107, .int .u8 105, .int .u8 108, .int .u8 110] 5)) w2.heap.size (.slice (some ⟨w2.heap.size, 0, none⟩) 4 4) M4) := hide ⟨unhide HML w2 _ (Nat.le_refl _), hbl.size, hbl⟩
  obtain ⟨⟨c0, _, _, _, _⟩, _⟩ := unhide HK _ HE0.out.2.2
  clear hb2 hrg HA1 HF HM HB1 hbl HML
  go_wp2_with fail
  refine (unhide HN0 _).mono ?_
  rintro e w3 ⟨v3, rfl, ho3, hb3⟩
  obtain ⟨a3, n3, c3, rfl⟩ := ho3.shape
  have HE3 := hide (HE0.out.below hb3)
  have HI3 := hide ho3.isB
  have hl3 : (M4).length + (fB x0 4).length ≤ 140737488355328 := by simp only [fB_len, HM4.out.1]; decide
  clear ho3 hb3 HE0 c0 HN0
  go_wp2_with (first
    | (at_builtin; refine wpList_appB rfl (.tmp 10) (.tmp 13) rfl rfl HE3.out.1 rfl HI3.out hl3 HE3.out.2.1 ?_; intro v4 w4 ho4 hg4
       have hE4 := HE3.out.app ho4 hg4
       obtain ⟨⟨_, c0, _, _, _⟩, _⟩ := unhide HK _ hE4.2.2
       obtain ⟨a4, n4, c4, rfl⟩ := ho4.shape
       have HE4 := hide hE4
       clear ho4 hg4 hE4 HE3 HI3)
    | fail)
  refine (unhide HN1 _).mono ?_
  rintro e w5 ⟨v5, rfl, ho5, hb5⟩
  obtain ⟨a5, n5, c5, rfl⟩ := ho5.shape
  have HE5 := hide (HE4.out.below hb5)
  have HI5 := hide ho5.isB
  have hl5 : (M4 ++ fB x0 4).length + (fB x1 4).length ≤ 140737488355328 := by simp only [List.length_append, fB_len, HM4.out.1]; decide
  clear ho5 hb5 HE4 c0 HN1
  go_wp2_with (first
    | (at_builtin; refine wpList_appB rfl (.tmp 15) (.tmp 18) rfl rfl HE5.out.1 rfl HI5.out hl5 HE5.out.2.1 ?_; intro v6 w6 ho6 hg6
       have hE6 := HE5.out.app ho6 hg6
       obtain ⟨⟨_, _, c0, _, _⟩, _⟩ := unhide HK _ hE6.2.2
       obtain ⟨a6, n6, c6, rfl⟩ := ho6.shape
       have HE6 := hide hE6
       clear ho6 hg6 hE6 HE5 HI5)
    | fail)
  refine (unhide HN2 _).mono ?_
  rintro e w7 ⟨v7, rfl, ho7, hb7⟩
  obtain ⟨a7, n7, c7, rfl⟩ := ho7.shape
  have HE7 := hide (HE6.out.below hb7)
  have HI7 := hide ho7.isB
  have hl7 : (M4 ++ fB x0 4 ++ fB x1 4).length + (fB x2 8).length ≤ 140737488355328 := by simp only [List.length_append, fB_len, HM4.out.1]; decide
  clear ho7 hb7 HE6 c0 HN2
  go_wp2_with (first
    | (at_builtin; refine wpList_appB rfl (.tmp 20) (.tmp 23) rfl rfl HE7.out.1 rfl HI7.out hl7 HE7.out.2.1 ?_; intro v8 w8 ho8 hg8
       have hE8 := HE7.out.app ho8 hg8
       obtain ⟨⟨_, _, _, c0, _⟩, _⟩ := unhide HK _ hE8.2.2
       obtain ⟨a8, n8, c8, rfl⟩ := ho8.shape
       have HE8 := hide hE8
       clear ho8 hg8 hE8 HE7 HI7)
    | fail)
  refine (unhide HN3 _).mono ?_
  rintro e w9 ⟨v9, rfl, ho9, hb9⟩
  obtain ⟨a9, n9, c9, rfl⟩ := ho9.shape
  have HE9 := hide (HE8.out.below hb9)
  have HI9 := hide ho9.isB
  have hl9 : (M4 ++ fB x0 4 ++ fB x1 4 ++ fB x2 8).length + (fB x3 8).length ≤ 140737488355328 := by simp only [List.length_append, fB_len, HM4.out.1]; decide
  clear ho9 hb9 HE8 c0 HN3
  go_wp2_with (first
    | (at_builtin; refine wpList_appB rfl (.tmp 25) (.tmp 28) rfl rfl HE9.out.1 rfl HI9.out hl9 HE9.out.2.1 ?_; intro v10 w10 ho10 hg10
       have hE10 := HE9.out.app ho10 hg10
       obtain ⟨⟨_, _, _, _, c0⟩, _⟩ := unhide HK _ hE10.2.2
       obtain ⟨a10, n10, c10, rfl⟩ := ho10.shape
       have HE10 := hide hE10
       clear ho10 hg10 hE10 HE9 HI9)
    | fail)
  refine (unhide HN4 _).mono ?_
  rintro e w11 ⟨v11, rfl, ho11, hb11⟩
  obtain ⟨a11, n11, c11, rfl⟩ := ho11.shape
  have HE11 := hide (HE10.out.below hb11)
  have HI11 := hide ho11.isB
  have hl11 : (M4 ++ fB x0 4 ++ fB x1 4 ++ fB x2 8 ++ fB x3 8).length + (fB x4 8).length ≤ 140737488355328 := by simp only [List.length_append, fB_len, HM4.out.1]; decide
  clear ho11 hb11 HE10 c0 HN4
  go_wp2_with (first
    | (at_builtin; refine wpList_appB rfl (.tmp 30) (.tmp 33) rfl rfl HE11.out.1 rfl HI11.out hl11 HE11.out.2.1 ?_; intro v12 w12 ho12 hg12
       have hE12 := HE11.out.app ho12 hg12
       obtain ⟨a12, n12, c12, rfl⟩ := ho12.shape
       have HE12 := hide hE12
       clear ho12 hg12 hE12 HE11 HI11)
    | fail)
  have HL36 : Hid ((M4 ++ fB x0 4 ++ fB x1 4 ++ fB x2 8 ++ fB x3 8 ++ fB x4 8).length = 36) := hide (by simp only [List.length_append, fB_len, HM4.out.1])
  have HE20 : Hid (E8 w2 w12 w2.heap.size (.slice a12 n12 c12) (M4 ++ fB x0 4 ++ fB x1 4 ++ fB x2 8 ++ fB x3 8 ++ fB x4 8 ++ kk.take 0)) := hide (by rw [List.take_zero, List.append_nil]; exact HE12.out)
  generalize M4 ++ fB x0 4 ++ fB x1 4 ++ fB x2 8 ++ fB x3 8 ++ fB x4 8 = X36 at *
  clear HE12
  go_loopw [4, 5] (fun bv i W => ∃ (k mm cc : Nat) (a : Option Addr), k ≤ 32 ∧ i = .int .i64 k ∧ bv = .slice a mm cc ∧ Hid (E8 w2 W w2.heap.size bv (X36 ++ kk.take k))) (fun _ i _ => 32 - (intOf i).toNat)
  case atStart => exact ⟨0, _, _, _, by decide, rfl, rfl, HE20⟩
  case round =>
    clear HE20
    obtain ⟨k, mm, cc, a, hk, rfl, rfl, HE⟩ := hrel
    by_cases hlt : k < 32
    · have hcl := (unhide HK wr HE.out.2.2).2.1 k hlt
      have hx := unhide HBK (kk.getD k 0) (getD_mem (by rw [HLK.out]; exact hlt))
      have HX1 : Hid (X36 ++ kk.take k ++ [kk.getD k 0] = X36 ++ kk.take (k + 1)) := hide (by rw [List.append_assoc, unhide HNX k hlt])
      have hll : (X36 ++ kk.take k).length + [kk.getD k 0].length ≤ 140737488355328 := by rw [List.length_append, HL36.out]; simp; omega
      have hba := jalloc_below wr (.cells #[.int .u8 (kk.getD k 0)] 5)
      have HE2 := hide (HE.out.below hba)
      have HI2 := hide (isB_lit wr [kk.getD k 0] (by intro x hx2; rw [List.mem_singleton.1 hx2]; exact hx) (by simp))
      have hkI : (k : Int) < 32 := by omega
      generalize kk.getD k 0 = x at *
      generalize X36 ++ kk.take k = xs at *
      clear HE hx hba
      go_wp2_with (first
        | (at_builtin; refine wpList_appB rfl (.tmp 39) (.tmp 44) rfl rfl HE2.out.1 rfl HI2.out hll HE2.out.2.1 ?_; intro v3 w3 ho3 hg3
           have hE3 := HE2.out.app ho3 hg3
           rw [HX1.out] at hE3
           obtain ⟨a3, n3, c3, rfl⟩ := ho3.shape
           have HE3 := hide hE3
           clear ho3 hg3 hE3 HE2 HI2)
        | fail)
      refine ⟨⟨k + 1, _, _, _, by omega, by go_num, rfl, HE3⟩, ?_⟩
      simp [intOf]
      omega
    · have HK32 : Hid (k = 32) := hide (by omega)
      have HE9 : Hid (E8 w2 wr w2.heap.size (.slice a mm cc) (X36 ++ kk)) := hide (by have := HE.out; rw [HK32.out, HAL.out] at this; exact this)
      have hr1 := (unhide HK wr HE.out.2.2).2.2.1
      have hkI : decide ((k : Int) < 32) = false := by simp; omega
      have HL68 : Hid ((X36 ++ kk).length = 68) := hide (by rw [List.length_append, HL36.out, HLK.out])
      generalize X36 ++ kk = X68 at *
      clear HE
      go_wp2_with (first
        | (refine wpList_loadJ rfl 25 (.tmp 47) rfl _ 37 rfl cr _ hr1 Tryd.underlying25 rfl hinfR ?_)
        | fail)
      refine (unhide HRF _).mono ?_
      rintro e w20 ⟨v20, rfl, ho20, hb20⟩
      obtain ⟨a20, n20, c20, rfl⟩ := ho20.shape
      have HE20 := hide (HE9.out.below hb20)
      have HI20 := hide ho20.isB
      have hl20 : X68.length + RR.length ≤ 140737488355328 := by rw [HL68.out, HLR.out]; decide
      have HL108 : Hid ((X68 ++ RR).length = 108) := hide (by rw [List.length_append, HL68.out, HLR.out])
      clear ho20 hb20 HE9 HRF hr1
      go_wp2_with (first
        | (at_builtin; refine wpList_appB rfl (.tmp 46) (.tmp 49) rfl rfl HE20.out.1 rfl HI20.out hl20 HE20.out.2.1 ?_; intro v21 w21 ho21 hg21
           have hE21 := HE20.out.app ho21 hg21
           have hr2 := (unhide HK _ hE21.2.2).2.2.2
           obtain ⟨a21, n21, c21, rfl⟩ := ho21.shape
           have HE21 := hide hE21
           clear ho21 hg21 hE21 HE20 HI20)
        | (refine wpList_loadJ rfl 25 (.tmp 52) rfl _ 71 rfl cm _ hr2 Tryd.underlying25 rfl hinfM ?_)
        | fail)
      generalize X68 ++ RR = X108 at *
      refine (unhide HMF _).mono ?_
      rintro e w22 ⟨v22, rfl, ho22, hb22⟩
      obtain ⟨a22, n22, c22, rfl⟩ := ho22.shape
      have HE22 := hide (HE21.out.below hb22)
      have HI22 := hide ho22.isB
      have hl22 : X108.length + MM.length ≤ 140737488355328 := by rw [HL108.out, HLM.out]; decide
      clear ho22 hb22 HE21 HMF hr2
      go_wp2_with (first
        | (at_builtin; refine wpList_appB rfl (.tmp 51) (.tmp 54) rfl rfl HE22.out.1 rfl HI22.out hl22 HE22.out.2.1 ?_; intro v23 w23 ho23 hg23
           have hE23 := HE22.out.app ho23 hg23
           rw [H148.out] at hE23
           obtain ⟨a23, c23, rfl⟩ := hE23.shapeN HL148.out
           have HE23 : Hid (E8 w2 w23 w2.heap.size (.slice a23 148 c23) (S148 ++ List.replicate 0 0)) := hide (by rw [List.replicate_zero, List.append_nil]; exact hE23)
           clear ho23 hg23 hE23 HE22 HI22)
        | fail)
      go_loopw [4] (fun bv W => ∃ (z cc : Nat) (a : Option Addr), z ≤ 360 ∧ bv = .slice a (148 + z) cc ∧ Hid (E8 w2 W w2.heap.size bv (S148 ++ List.replicate z 0))) (fun bv _ => 508 - lenS18 bv)
      case atStart => exact ⟨0, _, _, by decide, rfl, HE23⟩
      case round =>
        clear HE23
        obtain ⟨z, cz, az, hz, rfl, HEz⟩ := hrel
        by_cases hz2 : z < 360
        · have hba := jalloc_below wr (.cells #[.int .u8 0] 5)
          have HE2 := hide (HEz.out.below hba)
          have HI2 := hide (isB_lit wr [0] (by intro x hx2; rw [List.mem_singleton.1 hx2]; decide) (by simp))
          have hll : (S148 ++ List.replicate z 0).length + [(0 : Int)].length ≤ 140737488355328 := by rw [List.length_append, HL148.out, List.length_replicate]; simp; omega
          have HX1 : Hid (S148 ++ List.replicate z 0 ++ [0] = S148 ++ List.replicate (z + 1) 0) := hide (by rw [List.append_assoc, ← List.replicate_succ'])
          have HLz : Hid ((S148 ++ List.replicate (z + 1) 0).length = 148 + (z + 1)) := hide (by rw [List.length_append, HL148.out, List.length_replicate])
          have hzI : ((148 + z : Nat) : Int) < 508 := by omega
          generalize hnz : 148 + z = nz at *
          have HNZ := hide hnz
          generalize S148 ++ List.replicate z 0 = xs at *
          clear HEz hba hnz
          go_wp2_with (first
            | (at_builtin; refine wpList_appB rfl (.tmp 59) (.tmp 60) rfl rfl HE2.out.1 rfl HI2.out hll HE2.out.2.1 ?_; intro v3 w3 ho3 hg3
               have hE3 := HE2.out.app ho3 hg3
               rw [HX1.out] at hE3
               obtain ⟨a3, c3, rfl⟩ := hE3.shapeN HLz.out
               have HE3 := hide hE3
               clear ho3 hg3 hE3 HE2 HI2)
            | fail)
          refine ⟨⟨z + 1, _, _, by omega, rfl, HE3⟩, ?_⟩
          have hq := HNZ.out
          show 508 - (148 + (z + 1)) < 508 - nz
          omega
        · have HZ : Hid (z = 360) := hide (by omega)
          have HEB : Hid (E8 w2 wr w2.heap.size (.slice az 508 cz) SLB) := hide (by have := HEz.out; rw [HZ.out, HSB.out] at this; exact this)
          have hzI : decide (((148 + z : Nat) : Int) < 508) = false := by simp; omega
          have hn508 : 148 + z = 508 := by omega
          rw [hn508] at hzI ⊢
          have HSU := hide (refSumS_calls HEB.out.1.isB)
          have hsm : 0 ≤ sumOf [SLB] ∧ sumOf [SLB] < 4294967296 := by
            have h1 : crcAll 4294967295 [SLB] < 2 ^ 32 := crcAll_lt (by decide) (fun xs hxs => by rw [List.mem_singleton.1 hxs]; exact HBY.out)
            have h2 := Nat.xor_lt_two_pow (n := 32) (x := 4294967295) (by decide) h1
            unfold sumOf
            generalize 4294967295 ^^^ crcAll 4294967295 [SLB] = q at h2 ⊢
            omega
          have hws : IntKind.i64.wrap (sumOf [SLB]) = sumOf [SLB] := IntWalk.i64_in _ (by omega)
          have HNS : Hid (∀ W : World, Calls Tryd.prog 39 #[.int .i64 (sumOf [SLB]), .int .i64 4] W fun e w' => ∃ v, e = .returned v ∧ Own8 w' W.heap.size v (fB (sumOf [SLB]) 4) ∧ Below W.heap.size W w') := hide (fun W => rnum_calls (n := 4) hsm.1 (by omega) (by decide) (by decide))
          generalize sumOf [SLB] = sm at *
          have hls : SLB.length + (fB sm 4).length ≤ 140737488355328 := by rw [HLB.out, fB_len]; decide
          clear HEz hz hz2 hsm hn508
          go_wp2_with fail
          refine (unhide HSU).mono ?_
          rintro e w30 ⟨rfl, hb30⟩
          have HE30 := hide (HEB.out.below hb30)
          clear HSU HEB hb30
          go_wp2_with fail
          refine (unhide HNS _).mono ?_
          rintro e w31 ⟨v31, rfl, ho31, hb31⟩
          obtain ⟨a31, n31, c31, rfl⟩ := ho31.shape
          have HE31 := hide (HE30.out.below hb31)
          have HI31 := hide ho31.isB
          clear ho31 hb31 HE30 HNS
          go_wp2_with (first
            | (at_builtin; refine wpList_appB rfl (.tmp 62) (.tmp 66) rfl rfl HE31.out.1 rfl HI31.out hls HE31.out.2.1 ?_; intro v32 w32 ho32 hg32
               have hE32 := HE31.out.app ho32 hg32
               rw [HSL.out] at hE32
               obtain ⟨a32, n32, c32, rfl⟩ := ho32.shape
               have HO32 := hide (hE32.1.mono HB2.out.size)
               have HB32 := hide (HB2.out.trans (hE32.2.2.mono HB2.out.size))
               clear ho32 hg32 hE32 HE31 HI31)
            | fail)
          go_ret2
          exact ⟨_, rfl, HO32.out, HB32.out⟩
theorem rencS_calls {w : World} {s : SL} (hs : s.Ok) : Calls Tryd.prog 10 #[.agg (slV s).toArray] w fun e w' => ∃ u, e = .returned (.tuple #[u, .int .i64 (encSE s)]) ∧ Own8 w' w.heap.size u (encS s) ∧ Below w.heap.size w w' := by
  by_cases hm : s.May
  · rw [(encS_yes hm).1, (encS_yes hm).2]
    exact renc_good hs hm
  · rw [(encS_no hm).1, (encS_no hm).2]
    exact (renc_no hs hm).mono fun _ _ ⟨h1, h2⟩ => ⟨_, h1, Own8.nil _ _, h2⟩
end Go.Proofs.YtbgknbjpbobebaaDoor

namespace Go.Proofs.YtbgknbjpbobebaaDoor
open Go.RowKit Go.Maps

theorem or_addS {A c : Nat} (h : A % 256 = 0) (hc : c < 256) : A ||| c = A + c := by
  have h1 := Nat.two_pow_add_eq_or_of_lt (i := 8) (b := c) (by omega) (A / 256)
  rw [show 2 ^ 8 * (A / 256) = A by omega] at h1
  exact h1.symm
theorem sor_low {X L c : Int} (hX : X = IntKind.i64.wrap L) (h0 : 0 ≤ c) (h1 : c ≤ 255) : bits .or .i64 (wrap64 (X * 256)) c = IntKind.i64.wrap (c + 256 * L) := by
  show IntKind.i64.wrap (((BitVec.ofInt 64 (wrap64 (X * 256)) ||| BitVec.ofInt 64 c).toNat : Nat) : Int) = _
  rw [BitVec.toNat_or, BitVec.toNat_ofInt, BitVec.toNat_ofInt]
  have e1 : (wrap64 (X * 256) % ((2 ^ 64 : Nat) : Int)).toNat % 256 = 0 := by
    unfold wrap64
    have : ((2 ^ 64 : Nat) : Int) = 18446744073709551616 := by decide
    rw [this]
    omega
  have e2 : (c % ((2 ^ 64 : Nat) : Int)).toNat = c.toNat := by
    have : ((2 ^ 64 : Nat) : Int) = 18446744073709551616 := by decide
    rw [this]
    omega
  rw [e2, or_addS e1 (by omega), hX, IntKind.wrap_i64, IntKind.wrap_i64, IntKind.wrap_i64]
  unfold wrap64
  have : ((2 ^ 64 : Nat) : Int) = 18446744073709551616 := by decide
  rw [this]
  omega
theorem leN_cons_atS {b : List Int} {k n q : Nat} (hq : q < n) (hn : k + n ≤ b.length) : leN ((b.drop (k + q)).take (n - q)) = b[k + q]?.getD 0 + 256 * leN ((b.drop (k + (q + 1))).take (n - (q + 1))) := by
  rw [drop_at (show k + q < b.length by omega), show n - q = (n - (q + 1)) + 1 by omega, List.take_succ_cons, leN]
  rfl
set_option maxRecDepth 100000 in
set_option maxHeartbeats 1000000 in
theorem rread_calls18 {w : World} {v : Value} {b : List Int} (h : IsB w v b) {k n : Nat} (h1 : 1 ≤ n) (h8 : n ≤ 8) (hs : k + n ≤ b.length) :
    Calls Tryd.prog 64 #[v, .int .i64 (k : Int), .int .i64 (n : Int)] w fun e w' => e = .returned (.int .i64 (IntKind.i64.wrap (leN ((b.drop k).take n)))) ∧ w' = w := by
  obtain ⟨hby, a, cp, rfl, hl, hm, _, hcl⟩ := h
  obtain ⟨b2, off2, rfl, hcl2⟩ := hcl (by omega)
  have HCL := hide hcl2
  have HBY := hide hby
  clear hcl2
  obtain ⟨m, hm'⟩ : ∃ m, m = b.length := ⟨_, rfl⟩
  rw [← hm'] at hl hs ⊢
  have HM := hide hm'
  clear hcl hby hm'
  go_enter Tryd.func64, Tryd.ntmps64
  go_wp2
  go_loop [7, 8] (fun v i => ∃ (j : Nat) (X x : Int), j ≤ n ∧ i = .int .i64 x ∧ v = .int .i64 X ∧ Hid (x = (j : Int) - 1) ∧ Hid (X = IntKind.i64.wrap (leN ((b.drop (k + j)).take (n - j))))) (fun _ i => (intOf i + 1).toNat)
  case atStart => exact ⟨n, 0, _, Nat.le_refl _, rfl, rfl, by show _ = _; rfl, by show _ = _; rw [Nat.sub_self, List.take_zero]; rfl⟩
  case round =>
    obtain ⟨j, X, x, hj, rfl, rfl, HX, HE⟩ := hrel
    by_cases h0 : j = 0
    · have hx : decide (0 ≤ x) = false := by rw [HX.out, h0]; decide
      have HF : Hid (X = IntKind.i64.wrap (leN ((b.drop k).take n))) := by have := HE.out; rw [h0, Nat.add_zero, Nat.sub_zero] at this; exact this
      clear HE HX
      go_wp2
      go_ret
      exact ⟨by rw [← HF.out]; rfl, rfl⟩
    · obtain ⟨q, rfl⟩ : ∃ q, j = q + 1 := ⟨j - 1, by omega⟩
      obtain rfl : x = (q : Int) := by rw [HX.out]; omega
      have hbk := unhide HBY (k + q)
      obtain ⟨c, hcv⟩ : ∃ c, c = b[k + q]?.getD 0 := ⟨_, rfl⟩
      rw [← hcv] at hbk
      have hce : w.cell? ⟨b2, off2 + (k + q), none⟩ = some (.int .u8 c) := by
        rw [unhide HCL (k + q) (by rw [← HM.out]; omega), hcv, List.getD_eq_getElem?_getD]
      have hor := sor_low HE.out hbk.1 hbk.2
      have HN1 : Hid (IntKind.i64.wrap (c + 256 * leN ((b.drop (k + (q + 1))).take (n - (q + 1)))) = IntKind.i64.wrap (leN ((b.drop (k + q)).take (n - q)))) := by show _ = _; rw [leN_cons_atS (k := k) (n := n) (q := q) (by omega) (by rw [← HM.out]; omega), ← hcv]
      obtain ⟨Y, hY⟩ : ∃ Y, Y = IntKind.i64.wrap (c + 256 * leN ((b.drop (k + (q + 1))).take (n - (q + 1)))) := ⟨_, rfl⟩
      rw [← hY] at hor HN1
      clear HE HX hcv hY
      go_wp2
      go_round
      case rel => exact ⟨q, Y, _, by omega, rfl, rfl, by show _ = _; rfl, HN1⟩
      case measure => simp [intOf]
def prtS (b : List Int) (o k : Nat) : List Int := (b.drop o).take k ++ List.replicate (32 - k) 0
theorem prtS_len {b : List Int} {o k : Nat} (hk : k ≤ 32) (hl : o + 32 ≤ b.length) : (prtS b o k).length = 32 := by simp [prtS]; omega
theorem prtS_zero (b : List Int) (o : Nat) : prtS b o 0 = List.replicate 32 0 := by simp [prtS]
theorem prtS_all (b : List Int) (o : Nat) : prtS b o 32 = (b.drop o).take 32 := by simp [prtS]
theorem prtS_step {b : List Int} {o k : Nat} (hk : k < 32) (hl : o + 32 ≤ b.length) : (prtS b o k).set k (b.getD (o + k) 0) = prtS b o (k + 1) := by
  have h1 : ((b.drop o).take k).length = k := by simp; omega
  unfold prtS
  rw [List.set_append_right _ _ (by omega), h1, Nat.sub_self, show 32 - k = (32 - (k + 1)) + 1 by omega, List.replicate_succ, List.set_cons_zero]
  have h2 : (b.drop o).take (k + 1) = (b.drop o).take k ++ [b.getD (o + k) 0] := by
    rw [take_nextS (by simp; omega), List.getD_eq_getElem?_getD, List.getElem?_drop, ← List.getD_eq_getElem?_getD]
  rw [h2, List.append_assoc]
  rfl
theorem prtS_by {b : List Int} (hb : By8 b) (o k : Nat) : By8 (prtS b o k) := ((hb.drop o).take k).app (By8.zero _)
set_option maxRecDepth 100000 in
set_option maxHeartbeats 2000000 in
theorem rkey_calls {w : World} {v : Value} {b : List Int} (h : IsB w v b) {k : Nat} (hs : k + 32 ≤ b.length) (hb : b.length ≤ 1000) :
    Calls Tryd.prog 65 #[v, .int .i64 (k : Int)] w fun e w' => e = .returned (.agg (((b.drop k).take 32).map (Value.int .u8)).toArray) ∧ Below w.heap.size w w' := by
  obtain ⟨hby, a, cp, rfl, hl, hm, _, hcl⟩ := id h
  obtain ⟨b2, off2, rfl, _⟩ := hcl (by omega)
  have HCL : Hid (∀ W, Below w.heap.size w W → ∀ j, j < b.length → W.cell? ⟨b2, off2 + j, none⟩ = some (.int .u8 (b.getD j 0))) := hide (fun W hW j hj => by
    obtain ⟨_, a', cp', hv, _, _, _, hc⟩ := h.below hW
    obtain ⟨b3, off3, ha, hc3⟩ := hc (by omega)
    injection hv with e1 e2 e3
    rw [ha] at e1
    injection e1 with e1
    injection e1 with e1 e4
    subst e1 e4
    exact hc3 j hj)
  clear hcl
  have hA0 := Arr.new w z32K 23
  have hb0 := jalloc_below w (.cells z32K.toArray 23)
  obtain ⟨w1, hw1⟩ : ∃ w1, w1 = w.alloc (.cells z32K.toArray 23) := ⟨_, rfl⟩
  rw [← hw1] at hA0 hb0
  have hA1 := Arr.new w1 z32K 23
  have hb1 := jalloc_below w1 (.cells z32K.toArray 23)
  obtain ⟨w2, hw2⟩ : ∃ w2, w2 = w1.alloc (.cells z32K.toArray 23) := ⟨_, rfl⟩
  rw [← hw2] at hA1 hb1
  have HW1 := hide hw1
  have HW2 := hide hw2
  obtain ⟨g4, hg4⟩ : ∃ g, g = w.heap.size := ⟨_, rfl⟩
  obtain ⟨g5, hg5⟩ : ∃ g, g = w1.heap.size := ⟨_, rfl⟩
  rw [← hg4] at hA0
  rw [← hg5] at hA1
  have HG4 := hide hg4
  have HG5 := hide hg5
  have hlt := hA0.lt
  have HNE : Hid (g4 ≠ g5 ∧ w.heap.size ≤ g4 ∧ w.heap.size ≤ g5) := hide (by have := hb0.size; omega)
  have ez : z32K = (prtS b k 0).map (Value.int .u8) := by rw [prtS_zero, List.map_replicate]; rfl
  have HA5 : Hid (Arr w2 g5 23 ((prtS b k 0).map (Value.int .u8))) := hide (by rw [← ez]; exact hA1)
  have HA4 := hide (hA0.below hb1)
  have HBB := hide (below_then hb0 hb1)
  have HST : Hid (∀ q, q < 32 → ((prtS b k q).map (Value.int .u8)).set q (.int .u8 (b.getD (k + q) 0)) = (prtS b k (q + 1)).map (Value.int .u8)) := hide (fun q hq => by rw [← prtS_step hq hs, List.map_set])
  have HLN : Hid (∀ q, q ≤ 32 → ((prtS b k q).map (Value.int .u8)).length = 32) := hide (fun q hq => by rw [List.length_map, prtS_len hq hs])
  have HAL : Hid ((prtS b k 32).map (Value.int .u8) = ((b.drop k).take 32).map (Value.int .u8)) := hide (by rw [prtS_all])
  have hrl : ((b.drop k).take 32).length = 32 := by simp; omega
  have hinfK := infoKof hrl
  have hone : ∀ u ∈ ((b.drop k).take 32).map (Value.int .u8), u.oneCell' = true := by
    intro u hu
    obtain ⟨x, _, rfl⟩ := List.mem_map.1 hu
    rfl
  have hlen : z32K.length = (((b.drop k).take 32).map (Value.int .u8)).length := by rw [List.length_map, hrl]; rfl
  generalize ((b.drop k).take 32).map (Value.int .u8) = rc at *
  generalize hbn : b.length = bn at *
  clear h hA0 hb0 hw1 hA1 hb1 hw2 hg4 hg5 hlt ez hrl hbn
  go_enter Tryd.func65, Tryd.ntmps65
  go_wp2_with (first
    | (refine wpList_allocJ rfl 23 rfl infoK0 ?_; first | rw [← HW1.out, ← HG4.out] | rw [← HW2.out, ← HG5.out])
    | fail)
  go_loopw [6] (fun i W => ∃ q : Nat, q ≤ 32 ∧ i = .int .i64 q ∧ Hid (Arr W g5 23 ((prtS b k q).map (Value.int .u8))) ∧ Hid (Arr W g4 23 z32K) ∧ Hid (Below w.heap.size w W)) (fun i _ => 32 - (intOf i).toNat)
  case atStart => exact ⟨0, by decide, rfl, HA5, HA4, HBB⟩
  case round =>
    clear HA5 HA4 HBB
    obtain ⟨q, hq, rfl, HA5, HA4, HB⟩ := hrel
    by_cases hlt : q < 32
    · have hcl := unhide HCL wr HB.out (k + q) (by omega)
      have HSQ := hide (unhide HST q hlt)
      have hc5 : ∃ u, wr.cell? ⟨g5, q, none⟩ = some u := ⟨((prtS b k q).map (Value.int .u8))[q]'(by rw [unhide HLN q hq]; exact hlt), by rw [HA5.out.cell, List.getElem?_eq_getElem]⟩
      obtain ⟨u0, hc5⟩ := hc5
      have hfr := HA5.out.frozen q
      have hqI : (q : Int) < 32 := by omega
      generalize b.getD (k + q) 0 = x at *
      have HA5' : Hid (Arr (wr.setCell ⟨g5, q, none⟩ (.int .u8 x)) g5 23 ((prtS b k (q + 1)).map (Value.int .u8))) := hide (by rw [← HSQ.out]; exact sarr_set HA5.out _)
      have HA4' : Hid (Arr (wr.setCell ⟨g5, q, none⟩ (.int .u8 x)) g4 23 z32K) := hide (arr_grown HA4.out (sgrown_set _ _ _ _) (by simpa using HNE.out.1))
      have HB' : Hid (Below w.heap.size w (wr.setCell ⟨g5, q, none⟩ (.int .u8 x))) := hide (jbelow_grown HB.out (sgrown_set _ _ _ _) HB.out.size HNE.out.2.2)
      clear HA5 HA4 HB HSQ
      go_wp2_with fail
      refine ⟨⟨q + 1, by omega, by go_num, HA5', HA4', HB'⟩, ?_⟩
      simp [intOf]
      omega
    · have HQ : Hid (q = 32) := hide (by omega)
      have hA9 : Arr wr g5 23 rc := by have := HA5.out; rw [HQ.out, HAL.out] at this; exact this
      have hrg := hA9.rangeJ
      have hqI : decide ((q : Int) < 32) = false := by simp; omega
      clear HA5 hA9
      go_wp2_with (first
        | (refine wpList_loadJ rfl 23 (.tmp 5) rfl _ 0 rfl rc _ hrg Tryd.underlying23 rfl hinfK ?_)
        | (refine wpList_storeJ rfl (.tmp 4) (.tmp 19) 23 rfl rfl rfl HA4.out hinfK hlen hone ?_; intro w9 hA9 hg9)
        | fail)
      have hA9' : Arr w9 g4 23 rc := hA9
      refine bodyPost_ret (results_rowJ rfl rfl hA9' Tryd.underlying23 rfl hinfK) rfl ?_
      exact ⟨rfl, jbelow_grown HB.out hg9 HB.out.size HNE.out.2.1⟩
end Go.Proofs.YtbgknbjpbobebaaDoor
