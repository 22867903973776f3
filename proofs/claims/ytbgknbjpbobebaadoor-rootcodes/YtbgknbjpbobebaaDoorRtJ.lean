/- The document's Encode. -/
import Derived.Test.YtbgknbjpbobebaaDoorRtI
namespace Go.Proofs.YtbgknbjpbobebaaDoor
open Go.RowKit Go.Maps

theorem own8_litS (W : World) {B : Nat} (hB : B ≤ W.heap.size) {xs : List Int} (hb : By8 xs) (hl : xs.length ≤ 1000) : Own8 (W.alloc (.cells (xs.map (Value.int .u8)).toArray 5)) B (.slice (some ⟨W.heap.size, 0, none⟩) xs.length xs.length) xs := by
  refine ⟨⟨by simp, .inr ⟨W.heap.size, xs.length, (xs.map (Value.int .u8)).toArray, rfl, hB, Arr.new W (xs.map (Value.int .u8)) 5, Nat.le_refl _, by unfold maxLen; omega, by simp, by simp [List.take_of_length_le]⟩⟩, hb⟩
def lenS18 : Value → Nat
  | .slice _ n _ => n
  | _ => 0
theorem rencS_eq (s : SL) : mk4 ++ fB s.sc 4 ++ fB s.j 4 ++ fB s.t 8 ++ fB s.g 8 ++ fB s.s 8 ++ s.k ++ (s.r.h ++ fBs 4 [s.r.f, s.r.l]) ++ (s.m.h ++ fBs 4 [s.m.f, s.m.l]) = sl148 s := by
  simp only [sl148, sl140, sl108, sl100, sl68, sl36, sl12, fBs, List.append_assoc, List.flatMap_cons, List.flatMap_nil, List.append_nil]
set_option maxRecDepth 100000 in
set_option maxHeartbeats 1000000 in
theorem renc_no {w : World} {s : SL} (hs : s.Ok) (hm : ¬ s.May) : Calls Tryd.prog 10 #[.agg (slV s).toArray] w fun e w' => e = .returned (.tuple #[.slice none 0 0, .int .i64 180]) ∧ Below w.heap.size w w' := by
  have HM : Hid (∀ W, Calls Tryd.prog 38 #[.agg (slV s).toArray] W fun e w' => e = .returned (.bool false) ∧ Below W.heap.size W w') := hide (fun W => by have := rMay_calls (w := W) hs; rw [SL.may_no hm] at this; exact this)
  have hinfS := infoSof hs
  generalize slV s = cs1 at *
  clear hs hm
  go_enter Tryd.func10, Tryd.ntmps10
  go_wp2_with (first
    | (refine wpList_boxJ rfl 27 (.tmp 0) rfl rfl ?_; intro w1 hA1 hb1 hs1
       have hrg := hA1.rangeJ
       have HB1 := hide hb1
       clear hA1 hb1 hs1)
    | (refine wpList_loadJ rfl 27 (.tmp 1) rfl _ 0 rfl cs1 _ hrg Tryd.underlying27 rfl hinfS ?_)
    | fail)
  refine (unhide HM _).mono ?_
  rintro e w2 ⟨rfl, hb2⟩
  have HB2 := hide (below_then HB1.out hb2)
  clear hb2
  go_wp2
  go_ret2
  exact ⟨rfl, HB2.out⟩
set_option maxRecDepth 100000 in
set_option maxHeartbeats 8000000 in
theorem renc_good {w : World} {s : SL} (hs : s.Ok) (hm : s.May) : Calls Tryd.prog 10 #[.agg (slV s).toArray] w fun e w' => ∃ u, e = .returned (.tuple #[u, .int .i64 0]) ∧ Own8 w' w.heap.size u (slL s) ∧ Below w.heap.size w w' := by
  have HM : Hid (∀ W, Calls Tryd.prog 38 #[.agg (slV s).toArray] W fun e w' => e = .returned (.bool true) ∧ Below W.heap.size W w') := hide (fun W => by have := rMay_calls (w := W) hs; rw [(SL.may_iff s).2 hm] at this; exact this)
  have HF : Hid (∀ W, Arr W w.heap.size 27 (slV s) → (W.cell? ⟨w.heap.size, 0, none⟩ = some (.int .i64 s.sc) ∧ W.cell? ⟨w.heap.size, 1, none⟩ = some (.int .i64 s.j) ∧ W.cell? ⟨w.heap.size, 2, none⟩ = some (.int .i64 s.t) ∧ W.cell? ⟨w.heap.size, 3, none⟩ = some (.int .i64 s.g) ∧ W.cell? ⟨w.heap.size, 4, none⟩ = some (.int .i64 s.s)) ∧ (∀ k, k < 32 → W.cell? ⟨w.heap.size, 5 + k, none⟩ = some (.int .u8 (s.k.getD k 0))) ∧ W.rangeAt w.heap.size 37 (jfV s.r) ∧ W.rangeAt w.heap.size 71 (jfV s.m)) := hide (fun W hA => by
    obtain ⟨e0, e1, e2, e3, e4⟩ := slV_at s
    obtain ⟨_, q1, q2⟩ := slot_ranges hs hA
    refine ⟨⟨(hA.cell 0).trans e0, (hA.cell 1).trans e1, (hA.cell 2).trans e2, (hA.cell 3).trans e3, (hA.cell 4).trans e4⟩, fun k hk => (hA.cell _).trans ((slV_k hs).1 k _ ?_), q1, q2⟩
    have hkl : k < s.k.length := by rw [hs.len]; exact hk
    rw [List.getElem?_map, List.getElem?_eq_getElem hkl, List.getD_eq_getElem?_getD, List.getElem?_eq_getElem hkl]
    rfl)
  have HN0 : Hid (∀ W : World, Calls Tryd.prog 39 #[.int .i64 s.sc, .int .i64 4] W fun e w' => ∃ v, e = .returned v ∧ Own8 w' W.heap.size v (fB s.sc 4) ∧ Below W.heap.size W w') := hide (fun W => rnum_calls (n := 4) (by have := hm.sc0; have := hm.j0; have := hm.t.1; have := hm.g.1; have := hm.s.1; omega) hs.sc.2 (by decide) (by decide))
  have HN1 : Hid (∀ W : World, Calls Tryd.prog 39 #[.int .i64 s.j, .int .i64 4] W fun e w' => ∃ v, e = .returned v ∧ Own8 w' W.heap.size v (fB s.j 4) ∧ Below W.heap.size W w') := hide (fun W => rnum_calls (n := 4) (by have := hm.sc0; have := hm.j0; have := hm.t.1; have := hm.g.1; have := hm.s.1; omega) hs.j.2 (by decide) (by decide))
  have HN2 : Hid (∀ W : World, Calls Tryd.prog 39 #[.int .i64 s.t, .int .i64 8] W fun e w' => ∃ v, e = .returned v ∧ Own8 w' W.heap.size v (fB s.t 8) ∧ Below W.heap.size W w') := hide (fun W => rnum_calls (n := 8) (by have := hm.sc0; have := hm.j0; have := hm.t.1; have := hm.g.1; have := hm.s.1; omega) hs.t.2 (by decide) (by decide))
  have HN3 : Hid (∀ W : World, Calls Tryd.prog 39 #[.int .i64 s.g, .int .i64 8] W fun e w' => ∃ v, e = .returned v ∧ Own8 w' W.heap.size v (fB s.g 8) ∧ Below W.heap.size W w') := hide (fun W => rnum_calls (n := 8) (by have := hm.sc0; have := hm.j0; have := hm.t.1; have := hm.g.1; have := hm.s.1; omega) hs.g.2 (by decide) (by decide))
  have HN4 : Hid (∀ W : World, Calls Tryd.prog 39 #[.int .i64 s.s, .int .i64 8] W fun e w' => ∃ v, e = .returned v ∧ Own8 w' W.heap.size v (fB s.s 8) ∧ Below W.heap.size W w') := hide (fun W => rnum_calls (n := 8) (by have := hm.sc0; have := hm.j0; have := hm.t.1; have := hm.g.1; have := hm.s.1; omega) hs.s.2 (by decide) (by decide))
  have HRF : Hid (∀ W : World, Calls Tryd.prog 40 #[.agg (jfV s.r).toArray] W fun e w' => ∃ v, e = .returned v ∧ Own8 w' W.heap.size v (s.r.h ++ fBs 4 [s.r.f, s.r.l]) ∧ Below W.heap.size W w') := hide (fun W => rRef_calls hs.r (by have := hm.r.1; have := hm.j0; omega) hm.r.2.2.1)
  have HMF : Hid (∀ W : World, Calls Tryd.prog 40 #[.agg (jfV s.m).toArray] W fun e w' => ∃ v, e = .returned v ∧ Own8 w' W.heap.size v (s.m.h ++ fBs 4 [s.m.f, s.m.l]) ∧ Below W.heap.size W w') := hide (fun W => rRef_calls hs.m (by have := hm.m.1; have := hm.j0; omega) hm.m.2.2.1)
  have HLR : Hid ((s.r.h ++ fBs 4 [s.r.f, s.r.l]).length = 40) := hide (by rw [List.length_append, hs.r.len, fBs_len]; rfl)
  have HLM : Hid ((s.m.h ++ fBs 4 [s.m.f, s.m.l]).length = 40) := hide (by rw [List.length_append, hs.m.len, fBs_len]; rfl)
  have H148 := hide (rencS_eq s)
  have HL148 := hide (sl148_len hs)
  have HLB := hide (slB_len hs)
  have HBY := hide (slB_by hs)
  have HLK := hide hs.len
  have HBK := hide hs.by8
  have HSL : Hid (slB s ++ fB (sumOf [slB s]) 4 = slL s) := hide rfl
  have HSB : Hid (sl148 s ++ List.replicate 360 0 = slB s) := hide rfl
  have HNX : Hid (∀ k, k < 32 → s.k.take k ++ [s.k.getD k 0] = s.k.take (k + 1)) := hide (fun k hk => (take_nextS (by rw [hs.len]; exact hk)).symm)
  have HAL : Hid (s.k.take 32 = s.k) := hide (List.take_of_length_le (by rw [hs.len]; exact Nat.le_refl _))
  have HM4 : Hid (mk4.length = 4 ∧ By8 mk4) := hide ⟨rfl, fun x hx => by simp [mk4] at hx; omega⟩
  have HML : Hid (∀ (W : World) (B : Nat), B ≤ W.heap.size → Own8 (W.alloc (.cells #[.int .u8 107, .int .u8 105, .int .u8 108, .int .u8 110] 5)) B (.slice (some ⟨W.heap.size, 0, none⟩) 4 4) mk4) := hide (fun W B hB => own8_litS W hB (xs := mk4) (fun x hx => by simp [mk4] at hx; omega) (by decide))
  have hinfS := infoSof hs
  have hinfR := infoJof hs.r
  have hinfM := infoJof hs.m
  generalize slL s = SLL at *
  generalize slB s = SLB at *
  generalize sl148 s = S148 at *
  generalize slV s = cs1 at *
  generalize jfV s.r = cr at *
  generalize jfV s.m = cm at *
  generalize s.r.h ++ fBs 4 [s.r.f, s.r.l] = RR at *
  generalize s.m.h ++ fBs 4 [s.m.f, s.m.l] = MM at *
  generalize s.k = kk at *
  generalize s.sc = x0 at *
  generalize s.j = x1 at *
  generalize s.t = x2 at *
  generalize s.g = x3 at *
  generalize s.s = x4 at *
  generalize mk4 = M4 at *
  clear hs hm
  go_enter Tryd.func10, Tryd.ntmps10
  go_wp2_with (first
    | (refine wpList_boxJ rfl 27 (.tmp 0) rfl rfl ?_; intro w1 hA1 hb1 hs1
       have hrg := hA1.rangeJ
       have HB1 := hide hb1
       have HA1 := hide hA1
       clear hA1 hb1 hs1)
    | (refine wpList_loadJ rfl 27 (.tmp 1) rfl _ 0 rfl cs1 _ hrg Tryd.underlying27 rfl hinfS ?_)
    | fail)
  refine (unhide HM _).mono ?_
  rintro e w2 ⟨rfl, hb2⟩
  have HB2 := hide (below_then HB1.out hb2)
  have HK := hide (fun W (hW : Below w2.heap.size w2 W) => unhide HF W ((HA1.out.below hb2).below hW))
  have hbl := jalloc_below w2 (.cells #[.int .u8 107, .int .u8 105, .int .u8 108, .int .u8 110] 5)
  have HE0 : Hid (E8 w2 (w2.alloc (.cells #[.int .u8 107, .int .u8 105, .int .u8 108, .int .u8 110] 5)) w2.heap.size (.slice (some ⟨w2.heap.size, 0, none⟩) 4 4) M4) := hide ⟨unhide HML w2 _ (Nat.le_refl _), hbl.size, hbl⟩
  obtain ⟨⟨c0, _, _, _, _⟩, _⟩ := unhide HK _ HE0.out.2.2
  clear hb2 hrg HA1 HF HM HB1 hbl HML
  go_wp2_with fail
  refine (unhide HN0 _).mono ?_
  rintro e w3 ⟨v3, rfl, ho3, hb3⟩
  obtain ⟨a3, n3, c3, rfl⟩ := ho3.shape
  have HE3 := hide (HE0.out.below hb3)
  have HI3 := hide ho3.isB
  have hl3 : (M4).length + (fB x0 4).length ≤ 140737488355328 := by simp only [fB_len, HM4.out.1]; decide
  clear ho3 hb3 HE0 c0 HN0
  go_wp2_with (first
    | (at_builtin; refine wpList_appB rfl (.tmp 10) (.tmp 13) rfl rfl HE3.out.1 rfl HI3.out hl3 HE3.out.2.1 ?_; intro v4 w4 ho4 hg4
       have hE4 := HE3.out.app ho4 hg4
       obtain ⟨⟨_, c0, _, _, _⟩, _⟩ := unhide HK _ hE4.2.2
       obtain ⟨a4, n4, c4, rfl⟩ := ho4.shape
       have HE4 := hide hE4
       clear ho4 hg4 hE4 HE3 HI3)
    | fail)
  refine (unhide HN1 _).mono ?_
  rintro e w5 ⟨v5, rfl, ho5, hb5⟩
  obtain ⟨a5, n5, c5, rfl⟩ := ho5.shape
  have HE5 := hide (HE4.out.below hb5)
  have HI5 := hide ho5.isB
  have hl5 : (M4 ++ fB x0 4).length + (fB x1 4).length ≤ 140737488355328 := by simp only [List.length_append, fB_len, HM4.out.1]; decide
  clear ho5 hb5 HE4 c0 HN1
  go_wp2_with (first
    | (at_builtin; refine wpList_appB rfl (.tmp 15) (.tmp 18) rfl rfl HE5.out.1 rfl HI5.out hl5 HE5.out.2.1 ?_; intro v6 w6 ho6 hg6
       have hE6 := HE5.out.app ho6 hg6
       obtain ⟨⟨_, _, c0, _, _⟩, _⟩ := unhide HK _ hE6.2.2
       obtain ⟨a6, n6, c6, rfl⟩ := ho6.shape
       have HE6 := hide hE6
       clear ho6 hg6 hE6 HE5 HI5)
    | fail)
  refine (unhide HN2 _).mono ?_
  rintro e w7 ⟨v7, rfl, ho7, hb7⟩
  obtain ⟨a7, n7, c7, rfl⟩ := ho7.shape
  have HE7 := hide (HE6.out.below hb7)
  have HI7 := hide ho7.isB
  have hl7 : (M4 ++ fB x0 4 ++ fB x1 4).length + (fB x2 8).length ≤ 140737488355328 := by simp only [List.length_append, fB_len, HM4.out.1]; decide
  clear ho7 hb7 HE6 c0 HN2
  go_wp2_with (first
    | (at_builtin; refine wpList_appB rfl (.tmp 20) (.tmp 23) rfl rfl HE7.out.1 rfl HI7.out hl7 HE7.out.2.1 ?_; intro v8 w8 ho8 hg8
       have hE8 := HE7.out.app ho8 hg8
       obtain ⟨⟨_, _, _, c0, _⟩, _⟩ := unhide HK _ hE8.2.2
       obtain ⟨a8, n8, c8, rfl⟩ := ho8.shape
       have HE8 := hide hE8
       clear ho8 hg8 hE8 HE7 HI7)
    | fail)
  refine (unhide HN3 _).mono ?_
  rintro e w9 ⟨v9, rfl, ho9, hb9⟩
  obtain ⟨a9, n9, c9, rfl⟩ := ho9.shape
  have HE9 := hide (HE8.out.below hb9)
  have HI9 := hide ho9.isB
  have hl9 : (M4 ++ fB x0 4 ++ fB x1 4 ++ fB x2 8).length + (fB x3 8).length ≤ 140737488355328 := by simp only [List.length_append, fB_len, HM4.out.1]; decide
  clear ho9 hb9 HE8 c0 HN3
  go_wp2_with (first
    | (at_builtin; refine wpList_appB rfl (.tmp 25) (.tmp 28) rfl rfl HE9.out.1 rfl HI9.out hl9 HE9.out.2.1 ?_; intro v10 w10 ho10 hg10
       have hE10 := HE9.out.app ho10 hg10
       obtain ⟨⟨_, _, _, _, c0⟩, _⟩ := unhide HK _ hE10.2.2
       obtain ⟨a10, n10, c10, rfl⟩ := ho10.shape
       have HE10 := hide hE10
       clear ho10 hg10 hE10 HE9 HI9)
    | fail)
  refine (unhide HN4 _).mono ?_
  rintro e w11 ⟨v11, rfl, ho11, hb11⟩
  obtain ⟨a11, n11, c11, rfl⟩ := ho11.shape
  have HE11 := hide (HE10.out.below hb11)
  have HI11 := hide ho11.isB
  have hl11 : (M4 ++ fB x0 4 ++ fB x1 4 ++ fB x2 8 ++ fB x3 8).length + (fB x4 8).length ≤ 140737488355328 := by simp only [List.length_append, fB_len, HM4.out.1]; decide
  clear ho11 hb11 HE10 c0 HN4
  go_wp2_with (first
    | (at_builtin; refine wpList_appB rfl (.tmp 30) (.tmp 33) rfl rfl HE11.out.1 rfl HI11.out hl11 HE11.out.2.1 ?_; intro v12 w12 ho12 hg12
       have hE12 := HE11.out.app ho12 hg12
       obtain ⟨a12, n12, c12, rfl⟩ := ho12.shape
       have HE12 := hide hE12
       clear ho12 hg12 hE12 HE11 HI11)
    | fail)
  have HL36 : Hid ((M4 ++ fB x0 4 ++ fB x1 4 ++ fB x2 8 ++ fB x3 8 ++ fB x4 8).length = 36) := hide (by simp only [List.length_append, fB_len, HM4.out.1])
  have HE20 : Hid (E8 w2 w12 w2.heap.size (.slice a12 n12 c12) (M4 ++ fB x0 4 ++ fB x1 4 ++ fB x2 8 ++ fB x3 8 ++ fB x4 8 ++ kk.take 0)) := hide (by rw [List.take_zero, List.append_nil]; exact HE12.out)
  generalize M4 ++ fB x0 4 ++ fB x1 4 ++ fB x2 8 ++ fB x3 8 ++ fB x4 8 = X36 at *
  clear HE12
  go_loopw [4, 5] (fun bv i W => ∃ (k mm cc : Nat) (a : Option Addr), k ≤ 32 ∧ i = .int .i64 k ∧ bv = .slice a mm cc ∧ Hid (E8 w2 W w2.heap.size bv (X36 ++ kk.take k))) (fun _ i _ => 32 - (intOf i).toNat)
  case atStart => exact ⟨0, _, _, _, by decide, rfl, rfl, HE20⟩
  case round =>
    clear HE20
    obtain ⟨k, mm, cc, a, hk, rfl, rfl, HE⟩ := hrel
    by_cases hlt : k < 32
    · have hcl := (unhide HK wr HE.out.2.2).2.1 k hlt
      have hx := unhide HBK (kk.getD k 0) (getD_mem (by rw [HLK.out]; exact hlt))
      have HX1 : Hid (X36 ++ kk.take k ++ [kk.getD k 0] = X36 ++ kk.take (k + 1)) := hide (by rw [List.append_assoc, unhide HNX k hlt])
      have hll : (X36 ++ kk.take k).length + [kk.getD k 0].length ≤ 140737488355328 := by rw [List.length_append, HL36.out]; simp; omega
      have hba := jalloc_below wr (.cells #[.int .u8 (kk.getD k 0)] 5)
      have HE2 := hide (HE.out.below hba)
      have HI2 := hide (isB_lit wr [kk.getD k 0] (by intro x hx2; rw [List.mem_singleton.1 hx2]; exact hx) (by simp))
      have hkI : (k : Int) < 32 := by omega
      generalize kk.getD k 0 = x at *
      generalize X36 ++ kk.take k = xs at *
      clear HE hx hba
      go_wp2_with (first
        | (at_builtin; refine wpList_appB rfl (.tmp 39) (.tmp 44) rfl rfl HE2.out.1 rfl HI2.out hll HE2.out.2.1 ?_; intro v3 w3 ho3 hg3
           have hE3 := HE2.out.app ho3 hg3
           rw [HX1.out] at hE3
           obtain ⟨a3, n3, c3, rfl⟩ := ho3.shape
           have HE3 := hide hE3
           clear ho3 hg3 hE3 HE2 HI2)
        | fail)
      refine ⟨⟨k + 1, _, _, _, by omega, by go_num, rfl, HE3⟩, ?_⟩
      simp [intOf]
      omega
    · have HK32 : Hid (k = 32) := hide (by omega)
      have HE9 : Hid (E8 w2 wr w2.heap.size (.slice a mm cc) (X36 ++ kk)) := hide (by have := HE.out; rw [HK32.out, HAL.out] at this; exact this)
      have hr1 := (unhide HK wr HE.out.2.2).2.2.1
      have hkI : decide ((k : Int) < 32) = false := by simp; omega
      have HL68 : Hid ((X36 ++ kk).length = 68) := hide (by rw [List.length_append, HL36.out, HLK.out])
      generalize X36 ++ kk = X68 at *
      clear HE
      go_wp2_with (first
        | (refine wpList_loadJ rfl 25 (.tmp 47) rfl _ 37 rfl cr _ hr1 Tryd.underlying25 rfl hinfR ?_)
        | fail)
      refine (unhide HRF _).mono ?_
      rintro e w20 ⟨v20, rfl, ho20, hb20⟩
      obtain ⟨a20, n20, c20, rfl⟩ := ho20.shape
      have HE20 := hide (HE9.out.below hb20)
      have HI20 := hide ho20.isB
      have hl20 : X68.length + RR.length ≤ 140737488355328 := by rw [HL68.out, HLR.out]; decide
      have HL108 : Hid ((X68 ++ RR).length = 108) := hide (by rw [List.length_append, HL68.out, HLR.out])
      clear ho20 hb20 HE9 HRF hr1
      go_wp2_with (first
        | (at_builtin; refine wpList_appB rfl (.tmp 46) (.tmp 49) rfl rfl HE20.out.1 rfl HI20.out hl20 HE20.out.2.1 ?_; intro v21 w21 ho21 hg21
           have hE21 := HE20.out.app ho21 hg21
           have hr2 := (unhide HK _ hE21.2.2).2.2.2
           obtain ⟨a21, n21, c21, rfl⟩ := ho21.shape
           have HE21 := hide hE21
           clear ho21 hg21 hE21 HE20 HI20)
        | (refine wpList_loadJ rfl 25 (.tmp 52) rfl _ 71 rfl cm _ hr2 Tryd.underlying25 rfl hinfM ?_)
        | fail)
      generalize X68 ++ RR = X108 at *
      refine (unhide HMF _).mono ?_
      rintro e w22 ⟨v22, rfl, ho22, hb22⟩
      obtain ⟨a22, n22, c22, rfl⟩ := ho22.shape
      have HE22 := hide (HE21.out.below hb22)
      have HI22 := hide ho22.isB
      have hl22 : X108.length + MM.length ≤ 140737488355328 := by rw [HL108.out, HLM.out]; decide
      clear ho22 hb22 HE21 HMF hr2
      go_wp2_with (first
        | (at_builtin; refine wpList_appB rfl (.tmp 51) (.tmp 54) rfl rfl HE22.out.1 rfl HI22.out hl22 HE22.out.2.1 ?_; intro v23 w23 ho23 hg23
           have hE23 := HE22.out.app ho23 hg23
           rw [H148.out] at hE23
           obtain ⟨a23, c23, rfl⟩ := hE23.shapeN HL148.out
           have HE23 : Hid (E8 w2 w23 w2.heap.size (.slice a23 148 c23) (S148 ++ List.replicate 0 0)) := hide (by rw [List.replicate_zero, List.append_nil]; exact hE23)
           clear ho23 hg23 hE23 HE22 HI22)
        | fail)
      go_loopw [4] (fun bv W => ∃ (z cc : Nat) (a : Option Addr), z ≤ 360 ∧ bv = .slice a (148 + z) cc ∧ Hid (E8 w2 W w2.heap.size bv (S148 ++ List.replicate z 0))) (fun bv _ => 508 - lenS18 bv)
      case atStart => exact ⟨0, _, _, by decide, rfl, HE23⟩
      case round =>
        clear HE23
        obtain ⟨z, cz, az, hz, rfl, HEz⟩ := hrel
        by_cases hz2 : z < 360
        · have hba := jalloc_below wr (.cells #[.int .u8 0] 5)
          have HE2 := hide (HEz.out.below hba)
          have HI2 := hide (isB_lit wr [0] (by intro x hx2; rw [List.mem_singleton.1 hx2]; decide) (by simp))
          have hll : (S148 ++ List.replicate z 0).length + [(0 : Int)].length ≤ 140737488355328 := by rw [List.length_append, HL148.out, List.length_replicate]; simp; omega
          have HX1 : Hid (S148 ++ List.replicate z 0 ++ [0] = S148 ++ List.replicate (z + 1) 0) := hide (by rw [List.append_assoc, ← List.replicate_succ'])
          have HLz : Hid ((S148 ++ List.replicate (z + 1) 0).length = 148 + (z + 1)) := hide (by rw [List.length_append, HL148.out, List.length_replicate])
          have hzI : ((148 + z : Nat) : Int) < 508 := by omega
          generalize hnz : 148 + z = nz at *
          have HNZ := hide hnz
          generalize S148 ++ List.replicate z 0 = xs at *
          clear HEz hba hnz
          go_wp2_with (first
            | (at_builtin; refine wpList_appB rfl (.tmp 59) (.tmp 60) rfl rfl HE2.out.1 rfl HI2.out hll HE2.out.2.1 ?_; intro v3 w3 ho3 hg3
               have hE3 := HE2.out.app ho3 hg3
               rw [HX1.out] at hE3
               obtain ⟨a3, c3, rfl⟩ := hE3.shapeN HLz.out
               have HE3 := hide hE3
               clear ho3 hg3 hE3 HE2 HI2)
            | fail)
          refine ⟨⟨z + 1, _, _, by omega, rfl, HE3⟩, ?_⟩
          have hq := HNZ.out
          show 508 - (148 + (z + 1)) < 508 - nz
          omega
        · have HZ : Hid (z = 360) := hide (by omega)
          have HEB : Hid (E8 w2 wr w2.heap.size (.slice az 508 cz) SLB) := hide (by have := HEz.out; rw [HZ.out, HSB.out] at this; exact this)
          have hzI : decide (((148 + z : Nat) : Int) < 508) = false := by simp; omega
          have hn508 : 148 + z = 508 := by omega
          rw [hn508] at hzI ⊢
          have HSU := hide (refSumS_calls HEB.out.1.isB)
          have hsm : 0 ≤ sumOf [SLB] ∧ sumOf [SLB] < 4294967296 := by
            have h1 : crcAll 4294967295 [SLB] < 2 ^ 32 := crcAll_lt (by decide) (fun xs hxs => by rw [List.mem_singleton.1 hxs]; exact HBY.out)
            have h2 := Nat.xor_lt_two_pow (n := 32) (x := 4294967295) (by decide) h1
            unfold sumOf
            generalize 4294967295 ^^^ crcAll 4294967295 [SLB] = q at h2 ⊢
            omega
          have hws : IntKind.i64.wrap (sumOf [SLB]) = sumOf [SLB] := IntWalk.i64_in _ (by omega)
          have HNS : Hid (∀ W : World, Calls Tryd.prog 39 #[.int .i64 (sumOf [SLB]), .int .i64 4] W fun e w' => ∃ v, e = .returned v ∧ Own8 w' W.heap.size v (fB (sumOf [SLB]) 4) ∧ Below W.heap.size W w') := hide (fun W => rnum_calls (n := 4) hsm.1 (by omega) (by decide) (by decide))
          generalize sumOf [SLB] = sm at *
          have hls : SLB.length + (fB sm 4).length ≤ 140737488355328 := by rw [HLB.out, fB_len]; decide
          clear HEz hz hz2 hsm hn508
          go_wp2_with fail
          refine (unhide HSU).mono ?_
          rintro e w30 ⟨rfl, hb30⟩
          have HE30 := hide (HEB.out.below hb30)
          clear HSU HEB hb30
          go_wp2_with fail
          refine (unhide HNS _).mono ?_
          rintro e w31 ⟨v31, rfl, ho31, hb31⟩
          obtain ⟨a31, n31, c31, rfl⟩ := ho31.shape
          have HE31 := hide (HE30.out.below hb31)
          have HI31 := hide ho31.isB
          clear ho31 hb31 HE30 HNS
          go_wp2_with (first
            | (at_builtin; refine wpList_appB rfl (.tmp 62) (.tmp 66) rfl rfl HE31.out.1 rfl HI31.out hls HE31.out.2.1 ?_; intro v32 w32 ho32 hg32
               have hE32 := HE31.out.app ho32 hg32
               rw [HSL.out] at hE32
               obtain ⟨a32, n32, c32, rfl⟩ := ho32.shape
               have HO32 := hide (hE32.1.mono HB2.out.size)
               have HB32 := hide (HB2.out.trans (hE32.2.2.mono HB2.out.size))
               clear ho32 hg32 hE32 HE31 HI31)
            | fail)
          go_ret2
          exact ⟨_, rfl, HO32.out, HB32.out⟩
theorem rencS_calls {w : World} {s : SL} (hs : s.Ok) : Calls Tryd.prog 10 #[.agg (slV s).toArray] w fun e w' => ∃ u, e = .returned (.tuple #[u, .int .i64 (encSE s)]) ∧ Own8 w' w.heap.size u (encS s) ∧ Below w.heap.size w w' := by
  by_cases hm : s.May
  · rw [(encS_yes hm).1, (encS_yes hm).2]
    exact renc_good hs hm
  · rw [(encS_no hm).1, (encS_no hm).2]
    exact (renc_no hs hm).mono fun _ _ ⟨h1, h2⟩ => ⟨_, h1, Own8.nil _ _, h2⟩
end Go.Proofs.YtbgknbjpbobebaaDoor
