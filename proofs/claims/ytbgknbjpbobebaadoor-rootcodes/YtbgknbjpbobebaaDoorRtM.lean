/- Slots in memory; what within, numbersOf and the four parts of the numbers answer. -/
import Derived.Test.YtbgknbjpbobebaaDoorRtP
import Derived.Test.YtbgknbjpbobebaaDoorJrD
import Derived.Test.YtbgknbjpbobebaaDoorKC
import Derived.Test.YtbgknbjpbobebaaDoorInts
namespace Go.Proofs.YtbgknbjpbobebaaDoor
open Go.RowKit Go.Maps

/-- A slot's cells. -/
def slV (s : SL) : List Value := [.int .i64 s.sc, .int .i64 s.j, .int .i64 s.t, .int .i64 s.g, .int .i64 s.s] ++ (s.k.map (Value.int .u8) ++ (jfV s.r ++ jfV s.m))
/-- A slot's numbers. -/
def slN (s : SL) : List Int := [s.sc, s.j, s.t, s.g, s.s, s.r.f, s.r.l, s.m.f, s.m.l]
def nV (l : List Int) : List Value := l.map (Value.int .i64)
theorem nV_one (l : List Int) : ∀ u ∈ nV l, u.oneCell' = true := by
  intro u hu
  obtain ⟨x, _, rfl⟩ := List.mem_map.1 hu
  rfl
theorem slV_len {s : SL} (h : s.Ok) : (slV s).length = 105 := by
  unfold slV
  simp only [List.length_append, List.length_cons, List.length_nil, List.length_map, h.len, jfV_len h.r, jfV_len h.m]
theorem slV_one (s : SL) : ∀ u ∈ slV s, u.oneCell' = true := by
  intro u hu
  unfold slV at hu
  rcases List.mem_append.1 hu with hu | hu
  · simp only [List.mem_cons, List.not_mem_nil, or_false] at hu
    rcases hu with rfl | rfl | rfl | rfl | rfl <;> rfl
  · rcases List.mem_append.1 hu with hu | hu
    · obtain ⟨x, _, rfl⟩ := List.mem_map.1 hu; rfl
    · rcases List.mem_append.1 hu with hu | hu
      · exact jfV_one _ u hu
      · exact jfV_one _ u hu
def z105 : List Value := [.int .i64 0, .int .i64 0, .int .i64 0, .int .i64 0, .int .i64 0] ++ (List.replicate 32 (.int .u8 0) ++ (z34J ++ z34J))
theorem z105_nul : z105 = slV SL.nul := by
  unfold z105 slV SL.nul JF.zero jfV z34J
  simp only [List.map_replicate]
theorem infoSlo : (Tryd.prog.info? 27).map (fun i => (i.zero, i.size, i.bytes)) = some (some (.agg z105.toArray), 105, 168) := by kernel_rfl
theorem infoSz : (Tryd.prog.info? 27).map (·.size) = some 105 := by kernel_rfl
theorem infoSof {s : SL} (h : s.Ok) : (Tryd.prog.info? 27).map (·.size) = some (slV s).length := by rw [slV_len h]; exact infoSz
def z9 : List Value := List.replicate 9 (.int .i64 0)
theorem info9 : (Tryd.prog.info? 74).map (fun i => (i.zero, i.size, i.bytes)) = some (some (.agg z9.toArray), 9, 72) := by kernel_rfl
theorem info9z : (Tryd.prog.info? 74).map (·.size) = some 9 := by kernel_rfl
theorem bldS0 (W : World) : (Instr.build 27 #[]).run Tryd.prog W = .ok (.agg (slV SL.nul).toArray) W := by rw [← z105_nul]; kernel_rfl
theorem slV_at (s : SL) : (slV s)[0]? = some (.int .i64 s.sc) ∧ (slV s)[1]? = some (.int .i64 s.j) ∧ (slV s)[2]? = some (.int .i64 s.t) ∧ (slV s)[3]? = some (.int .i64 s.g) ∧ (slV s)[4]? = some (.int .i64 s.s) := ⟨rfl, rfl, rfl, rfl, rfl⟩
theorem slV_hi {s : SL} (h : s.Ok) : (slV s)[69]? = some (.int .i64 s.r.f) ∧ (slV s)[70]? = some (.int .i64 s.r.l) ∧ (slV s)[103]? = some (.int .i64 s.m.f) ∧ (slV s)[104]? = some (.int .i64 s.m.l) := by
  have hk : (s.k.map (Value.int .u8)).length = 32 := by rw [List.length_map, h.len]
  have hr := jfV_len h.r
  have hm := jfV_len h.m
  obtain ⟨r1, r2⟩ := jfV_f h.r.len
  obtain ⟨m1, m2⟩ := jfV_f h.m.len
  have e : ∀ i, (slV s)[5 + (32 + i)]? = (jfV s.r ++ jfV s.m)[i]? := fun i => by
    unfold slV
    rw [List.getElem?_append_right (by simp), List.getElem?_append_right (by rw [hk]; simp), hk]
    congr 1
    simp
  have e1 : ∀ i, i < 34 → (slV s)[5 + (32 + i)]? = (jfV s.r)[i]? := fun i hi => by rw [e, List.getElem?_append_left (by omega)]
  have e2 : ∀ i, (slV s)[5 + (32 + (34 + i))]? = (jfV s.m)[i]? := fun i => by rw [e, List.getElem?_append_right (by omega), hr, Nat.add_sub_cancel_left]
  exact ⟨(e1 32 (by omega)).trans r1, (e1 33 (by omega)).trans r2, (e2 32).trans m1, (e2 33).trans m2⟩
theorem slV_k {s : SL} (h : s.Ok) : (∀ j u, (s.k.map (Value.int .u8))[j]? = some u → (slV s)[5 + j]? = some u) ∧ (∀ j u, (s.r.h.map (Value.int .u8))[j]? = some u → (slV s)[37 + j]? = some u) ∧ (∀ j u, (s.m.h.map (Value.int .u8))[j]? = some u → (slV s)[71 + j]? = some u) := by
  have hk : (s.k.map (Value.int .u8)).length = 32 := by rw [List.length_map, h.len]
  have hr := jfV_len h.r
  have lt : ∀ {l : List Value} {j : Nat} {u : Value}, l[j]? = some u → j < l.length := fun hu => (List.getElem?_eq_some_iff.1 hu).1
  refine ⟨fun j u hu => ?_, fun j u hu => ?_, fun j u hu => ?_⟩
  · have hj := lt hu
    unfold slV
    rw [List.getElem?_append_right (by simp), List.getElem?_append_left (by simpa using hj)]
    rw [← hu]
    congr 1
    simp
  · have hj := lt hu
    rw [List.length_map, h.r.len] at hj
    have hj' := lt hu
    unfold slV
    rw [List.getElem?_append_right (by simp; omega), List.getElem?_append_right (by rw [hk]; simp; omega), hk, List.getElem?_append_left (by rw [hr]; simp; omega)]
    unfold jfV
    rw [List.getElem?_append_left (by simp at hj' ⊢; omega), ← hu]
    congr 1
    simp
    omega
  · have hj := lt hu
    rw [List.length_map, h.m.len] at hj
    have hj' := lt hu
    unfold slV
    rw [List.getElem?_append_right (by simp; omega), List.getElem?_append_right (by rw [hk]; simp; omega), hk, List.getElem?_append_right (by rw [hr]; simp; omega), hr]
    unfold jfV
    rw [List.getElem?_append_left (by simp at hj' ⊢; omega), ← hu]
    congr 1
    simp
    omega
set_option maxRecDepth 100000 in
set_option maxHeartbeats 1000000 in
theorem within_calls (w : World) (v lo hi : Int) : Calls Tryd.prog 58 #[.int .i64 v, .int .i64 lo, .int .i64 hi] w fun e w' => e = .returned (.bool (decide (lo ≤ v ∧ v ≤ hi))) ∧ w' = w := by
  by_cases h1 : lo ≤ v
  · by_cases h2 : v ≤ hi
    · have HR : Hid (decide (lo ≤ v ∧ v ≤ hi) = true) := hide (by simp [h1, h2])
      go_enter Tryd.func58, Tryd.ntmps58
      go_wp2
      go_ret
      exact ⟨by first | rfl | (rw [HR.out]; rfl), rfl⟩
    · have HR : Hid (decide (lo ≤ v ∧ v ≤ hi) = false) := hide (by simp [h2])
      have d2 : decide (v ≤ hi) = false := by simpa using h2
      go_enter Tryd.func58, Tryd.ntmps58
      go_wp2
      go_ret
      exact ⟨by first | rfl | (rw [HR.out]; rfl), rfl⟩
  · have HR : Hid (decide (lo ≤ v ∧ v ≤ hi) = false) := hide (by simp [h1])
    have d1 : decide (lo ≤ v) = false := by simpa using h1
    go_enter Tryd.func58, Tryd.ntmps58
    go_wp2
    go_ret
    exact ⟨by first | rfl | (rw [HR.out]; rfl), rfl⟩
section
variable {w : World} {g : Nat} {cs : List Value}
set_option maxRecDepth 100000 in
theorem sizes_calls (w : World) (g : Nat) : Calls Tryd.prog 33 #[.pointer (some ⟨g, 0, none⟩)] w fun e w' => e = .returned (.slice (some ⟨g, 0, none⟩) 2 9) ∧ w' = w := by
  go_enter Tryd.func33, Tryd.ntmps33
  go_wp2
  go_ret
  exact ⟨by rfl, rfl⟩
set_option maxRecDepth 100000 in
theorem counts_calls (w : World) (g : Nat) : Calls Tryd.prog 34 #[.pointer (some ⟨g, 0, none⟩)] w fun e w' => e = .returned (.slice (some ⟨g, 2, none⟩) 3 7) ∧ w' = w := by
  go_enter Tryd.func34, Tryd.ntmps34
  go_wp2
  go_ret
  exact ⟨by rfl, rfl⟩
set_option maxRecDepth 100000 in
theorem root_calls (w : World) (g : Nat) : Calls Tryd.prog 35 #[.pointer (some ⟨g, 0, none⟩)] w fun e w' => e = .returned (.slice (some ⟨g, 5, none⟩) 2 4) ∧ w' = w := by
  go_enter Tryd.func35, Tryd.ntmps35
  go_wp2
  go_ret
  exact ⟨by rfl, rfl⟩
set_option maxRecDepth 100000 in
theorem memo_calls (w : World) (g : Nat) : Calls Tryd.prog 36 #[.pointer (some ⟨g, 0, none⟩)] w fun e w' => e = .returned (.slice (some ⟨g, 7, none⟩) 2 2) ∧ w' = w := by
  go_enter Tryd.func36, Tryd.ntmps36
  go_wp2
  go_ret
  exact ⟨by rfl, rfl⟩
end
theorem bld9 (a0 a1 a2 a3 a4 a5 a6 a7 a8 : Int) (W : World) : (Instr.build 74 #[(0, .int .i64 a0), (1, .int .i64 a1), (2, .int .i64 a2), (3, .int .i64 a3), (4, .int .i64 a4), (5, .int .i64 a5), (6, .int .i64 a6), (7, .int .i64 a7), (8, .int .i64 a8)]).run Tryd.prog W = .ok (.agg (nV [a0, a1, a2, a3, a4, a5, a6, a7, a8]).toArray) W := by kernel_rfl
set_option maxRecDepth 100000 in
set_option maxHeartbeats 2000000 in
theorem numbersOf_calls {w : World} {s : SL} (hs : s.Ok) : Calls Tryd.prog 31 #[.agg (slV s).toArray] w fun e w' => e = .returned (.agg (nV (slN s)).toArray) ∧ Below w.heap.size w w' := by
  have HF : Hid (∀ w1, Arr w1 w.heap.size 27 (slV s) → Below w.heap.size w w1 → w1.heap.size = w.heap.size + 1 → (∀ i u, (slV s)[i]? = some u → (w1.alloc (.cells z9.toArray 74)).cell? ⟨w.heap.size, i, none⟩ = some u) ∧ Below w.heap.size w (w1.alloc (.cells z9.toArray 74))) := hide (fun w1 hA hb hsz => by
    have h2 := jalloc_below w1 (.cells z9.toArray 74)
    exact ⟨fun i u hu => ((hA.below h2).cell i).trans hu, below_then hb h2⟩)
  obtain ⟨e0, e1, e2, e3, e4⟩ := slV_at s
  obtain ⟨e5, e6, e7, e8⟩ := slV_hi hs
  have HE := hide (And.intro e0 (And.intro e1 (And.intro e2 (And.intro e3 (And.intro e4 (And.intro e5 (And.intro e6 (And.intro e7 e8))))))))
  have HN : Hid (slN s = [s.sc, s.j, s.t, s.g, s.s, s.r.f, s.r.l, s.m.f, s.m.l]) := hide rfl
  clear e0 e1 e2 e3 e4 e5 e6 e7 e8
  generalize slN s = NN at *
  generalize slV s = cs at *
  generalize s.sc = x0 at *
  generalize s.j = x1 at *
  generalize s.t = x2 at *
  generalize s.g = x3 at *
  generalize s.s = x4 at *
  generalize s.r.f = x5 at *
  generalize s.r.l = x6 at *
  generalize s.m.f = x7 at *
  generalize s.m.l = x8 at *
  clear hs
  have hbld := bld9 x0 x1 x2 x3 x4 x5 x6 x7 x8
  have hinf : (Tryd.prog.info? 74).map (·.size) = some (nV [x0, x1, x2, x3, x4, x5, x6, x7, x8]).length := info9z
  have hlen : z9.length = (nV [x0, x1, x2, x3, x4, x5, x6, x7, x8]).length := rfl
  have hone := nV_one [x0, x1, x2, x3, x4, x5, x6, x7, x8]
  go_enter Tryd.func31, Tryd.ntmps31
  go_wp2_with (first
    | (refine wpList_boxJ rfl 27 (.tmp 0) rfl rfl ?_; intro w1 hA hb hsz
       obtain ⟨hc, hb2⟩ := unhide HF w1 hA hb hsz
       obtain ⟨e0, e1, e2, e3, e4, e5, e6, e7, e8⟩ := HE.out
       have c0 := hc 0 _ e0
       have c1 := hc 1 _ e1
       have c2 := hc 2 _ e2
       have c3 := hc 3 _ e3
       have c4 := hc 4 _ e4
       have c5 := hc 69 _ e5
       have c6 := hc 70 _ e6
       have c7 := hc 103 _ e7
       have c8 := hc 104 _ e8
       have HB2 := hide hb2
       have HNW := hide (Arr.new w1 z9 74)
       have HSZ := hide hsz
       clear hA hb hc hb2 e0 e1 e2 e3 e4 e5 e6 e7 e8 hsz)
    | (refine wpList_allocJ rfl 74 rfl info9 ?_; generalize w1.alloc (.cells z9.toArray 74) = w2 at *)
    | (refine wpList_storeJ rfl (.tmp 2) (.tmp 25) 74 rfl rfl (ds := nV [x0, x1, x2, x3, x4, x5, x6, x7, x8]) rfl HNW.out hinf hlen hone ?_; intro w3 hA3 hg3)
    | fail)
  have HB3 := hide (jbelow_grown HB2.out hg3 HB2.out.size (by rw [HSZ.out]; exact Nat.le_succ _))
  have hA4 : Arr w3 w1.heap.size 74 (nV [x0, x1, x2, x3, x4, x5, x6, x7, x8]) := hA3
  refine bodyPost_ret (results_rowJ rfl rfl hA4 Tryd.underlying74 rfl hinf) rfl ?_
  exact ⟨by rw [HN.out], HB3.out⟩
end Go.Proofs.YtbgknbjpbobebaaDoor
