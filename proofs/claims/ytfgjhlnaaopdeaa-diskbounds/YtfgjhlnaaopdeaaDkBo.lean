/- DiskBounds: sectors, lengths and bits that are none. -/
import Derived.Test.YtfgjhlnaaopdeaaDkBd
namespace Go.Proofs.Ytfgjhlnaaopdeaa
open Go.RowKit Go.Maps

/-- A slice literal of many elements: the law at the operation. -/
theorem wpList_buildSlice {P : Program} {w w' : World} {ops : Array Oper} {rest : List Oper} {o : Oper} {a : Act} {Q : Exit → Act → World → Prop} (hg : o.guard = none) (t : TypeId) (n : Nat) (parts : Array (Nat × Operand)) (hop : o.op = Op.buildSlice t n parts)
    (v : Value) (hrun : (Instr.buildSlice t n (parts.map fun (i, x) => (i, a.eval x))).run P w = .ok v w') (hK : wpList P ops Q rest (a.put o.dst v) w') : wpList P ops Q (o :: rest) a w := by
  refine wpList_plain hg fun K hK' => ?_
  unfold Oper.wp
  simp [execOp, hop, hrun, Result.andThen]
  exact hK' _ _ hK
def opV (k x y : Int) (u : Value) (z : Int) : List Value := [.int .i64 k, .int .i64 x, .int .i64 y, u, .int .i64 z, .slice none 0 0]
def opsC (n bit : Int) (v7 vb : Value) : List Value :=
  [.int .i64 1, .int .i64 1, .int .i64 0, v7, .int .i64 0, .slice none 0 0,
   .int .i64 0, .int .i64 n, .int .i64 0, .slice none 0 0, .int .i64 0, .slice none 0 0,
   .int .i64 1, .int .i64 n, .int .i64 0, vb, .int .i64 1, .slice none 0 0,
   .int .i64 4, .int .i64 n, .int .i64 bit, .slice none 0 0, .int .i64 0, .slice none 0 0,
   .int .i64 0, .int .i64 n, .int .i64 0, .slice none 0 0, .int .i64 0, .slice none 0 0,
   .int .i64 1, .int .i64 n, .int .i64 0, vb, .int .i64 0, .slice none 0 0,
   .int .i64 0, .int .i64 n, .int .i64 0, .slice none 0 0, .int .i64 0, .slice none 0 0,
   .int .i64 0, .int .i64 1, .int .i64 0, .slice none 0 0, .int .i64 0, .slice none 0 0]
theorem ops_at (n bit : Int) (v7 vb : Value) {k : Nat} (hk : k < 8) : ∃ kd x y u z, (kd = 0 ∨ kd = 1 ∨ kd = 4) ∧ (u = v7 ∨ u = vb ∨ u = .slice none 0 0) ∧ (k = 0 → kd = 1 ∧ x = 1 ∧ z = 0) ∧ ∀ j v, (opV kd x y u z)[j]? = some v → (opsC n bit v7 vb)[k * 6 + j]? = some v := by
  match k, hk with
  | 0, _ =>
    refine ⟨1, 1, 0, v7, 0, Or.inr (Or.inl rfl), Or.inl rfl, fun _ => ⟨rfl, rfl, rfl⟩, fun j v hv => ?_⟩
    match j, hv with
    | 0, hv => exact hv
    | 1, hv => exact hv
    | 2, hv => exact hv
    | 3, hv => exact hv
    | 4, hv => exact hv
    | 5, hv => exact hv
    | j + 6, hv => simp [opV] at hv
  | 1, _ =>
    refine ⟨0, n, 0, .slice none 0 0, 0, Or.inl rfl, Or.inr (Or.inr rfl), fun h => absurd h (by decide), fun j v hv => ?_⟩
    match j, hv with
    | 0, hv => exact hv
    | 1, hv => exact hv
    | 2, hv => exact hv
    | 3, hv => exact hv
    | 4, hv => exact hv
    | 5, hv => exact hv
    | j + 6, hv => simp [opV] at hv
  | 2, _ =>
    refine ⟨1, n, 0, vb, 1, Or.inr (Or.inl rfl), Or.inr (Or.inl rfl), fun h => absurd h (by decide), fun j v hv => ?_⟩
    match j, hv with
    | 0, hv => exact hv
    | 1, hv => exact hv
    | 2, hv => exact hv
    | 3, hv => exact hv
    | 4, hv => exact hv
    | 5, hv => exact hv
    | j + 6, hv => simp [opV] at hv
  | 3, _ =>
    refine ⟨4, n, bit, .slice none 0 0, 0, Or.inr (Or.inr rfl), Or.inr (Or.inr rfl), fun h => absurd h (by decide), fun j v hv => ?_⟩
    match j, hv with
    | 0, hv => exact hv
    | 1, hv => exact hv
    | 2, hv => exact hv
    | 3, hv => exact hv
    | 4, hv => exact hv
    | 5, hv => exact hv
    | j + 6, hv => simp [opV] at hv
  | 4, _ =>
    refine ⟨0, n, 0, .slice none 0 0, 0, Or.inl rfl, Or.inr (Or.inr rfl), fun h => absurd h (by decide), fun j v hv => ?_⟩
    match j, hv with
    | 0, hv => exact hv
    | 1, hv => exact hv
    | 2, hv => exact hv
    | 3, hv => exact hv
    | 4, hv => exact hv
    | 5, hv => exact hv
    | j + 6, hv => simp [opV] at hv
  | 5, _ =>
    refine ⟨1, n, 0, vb, 0, Or.inr (Or.inl rfl), Or.inr (Or.inl rfl), fun h => absurd h (by decide), fun j v hv => ?_⟩
    match j, hv with
    | 0, hv => exact hv
    | 1, hv => exact hv
    | 2, hv => exact hv
    | 3, hv => exact hv
    | 4, hv => exact hv
    | 5, hv => exact hv
    | j + 6, hv => simp [opV] at hv
  | 6, _ =>
    refine ⟨0, n, 0, .slice none 0 0, 0, Or.inl rfl, Or.inr (Or.inr rfl), fun h => absurd h (by decide), fun j v hv => ?_⟩
    match j, hv with
    | 0, hv => exact hv
    | 1, hv => exact hv
    | 2, hv => exact hv
    | 3, hv => exact hv
    | 4, hv => exact hv
    | 5, hv => exact hv
    | j + 6, hv => simp [opV] at hv
  | 7, _ =>
    refine ⟨0, 1, 0, .slice none 0 0, 0, Or.inl rfl, Or.inr (Or.inr rfl), fun h => absurd h (by decide), fun j v hv => ?_⟩
    match j, hv with
    | 0, hv => exact hv
    | 1, hv => exact hv
    | 2, hv => exact hv
    | 3, hv => exact hv
    | 4, hv => exact hv
    | 5, hv => exact hv
    | j + 6, hv => simp [opV] at hv
theorem bytes_run (W : World) : (Instr.buildSlice 27 1 #[(0, .int .u8 7)]).run Try.prog W = .ok (.slice (some ⟨W.heap.size, 0, none⟩) 1 1) (W.alloc (.cells #[.int .u8 7] 5)) := by kernel_rfl
theorem ops_run (W : World) (n bit : Int) (a7 ab : Option Addr) (n7 c7 nb cb : Nat) : (Instr.buildSlice 22 8 #[(0, .agg (opV 1 1 0 (.slice a7 n7 c7) 0).toArray), (1, .agg (opV 0 n 0 (.slice none 0 0) 0).toArray), (2, .agg (opV 1 n 0 (.slice ab nb cb) 1).toArray), (3, .agg (opV 4 n bit (.slice none 0 0) 0).toArray), (4, .agg (opV 0 n 0 (.slice none 0 0) 0).toArray), (5, .agg (opV 1 n 0 (.slice ab nb cb) 0).toArray), (6, .agg (opV 0 n 0 (.slice none 0 0) 0).toArray), (7, .agg (opV 0 1 0 (.slice none 0 0) 0).toArray)]).run Try.prog W = .ok (.slice (some ⟨W.heap.size, 0, none⟩) 8 8) (W.alloc (.cells (opsC n bit (.slice a7 n7 c7) (.slice ab nb cb)).toArray 30)) := by kernel_rfl
theorem isB_seven {w : World} {g : Nat} (h : Arr w g 5 [.int .u8 7]) : IsB w (.slice (some ⟨g, 0, none⟩) 1 1) [7] := by
  refine ⟨fun j => by match j with | 0 => exact ⟨by decide, by decide⟩ | j + 1 => simp, some ⟨g, 0, none⟩, 1, rfl, Nat.le_refl _, by decide, (fun h => by cases h), fun _ => ⟨g, 0, rfl, fun j hj => ?_⟩⟩
  obtain rfl : j = 0 := by simpa using hj
  exact h.cell_of rfl
/-- How the walk stands. -/
structure Stands (w0 w : World) (g p gl gm q7 q k : Nat) (n bit : Int) (vb : Value) (s : Nat) : Prop where
  m : ∃ V D R, Pr w g p gl gm V D R ∧ Sm k D R ∧ D.la.length = s ∧ (0 < k → 1 ≤ D.wt) ∧ (∀ b, Fp g p gl gm V b → w0.heap.size ≤ b)
  a7 : Arr w q7 5 [.int .u8 7]
  ao : Arr w q 30 (opsC n bit (.slice (some ⟨q7, 0, none⟩) 1 1) vb)
  b : Below w0.heap.size w0 w
theorem Stands.step {w0 w w' : World} {g p gl gm q7 q k : Nat} {n bit : Int} {vb : Value} {s : Nat} {V V' : Nat → Value} {D D' : AD} {R R' : RD} (h : Stands w0 w g p gl gm q7 q k n bit vb s) (hP : Pr w g p gl gm V D R) (hF : ∀ b, Fp g p gl gm V b → w0.heap.size ≤ b) (hP' : Pr w' g p gl gm V' D' R') (hm : Sm (k + 1) D' R') (hs : D'.la.length = s) (h1 : 1 ≤ D'.wt) (hV : ∀ b, Ft p gl gm V' b → Ft p gl gm V b ∨ w.heap.size ≤ b) (hU : Up (Fp g p gl gm V) w w') : Stands w0 w' g p gl gm q7 q (k + 1) n bit vb s := by
  obtain ⟨_, _, _, _, _, _, hG, _, _⟩ := hP.blk
  have hne : ∀ (c : Nat) (t : TypeId) (cs : List Value), Arr w c t cs → t ≠ 86 → t ≠ 84 → t ≠ 38 → ¬ Fp g p gl gm V c := fun c t cs hA e1 e2 e3 hc => by
    rcases hc with rfl | hc
    · unfold Arr at hA hG
      rw [hA] at hG
      injection hG with hG
      injection hG with _ hG
      exact e3 hG
    · exact (hP.dk.tm c hc _ _ _ hA).elim e1 e2
  have hsz := h.b.size
  exact ⟨⟨V', D', R', hP', hm, hs, fun _ => h1, fun b hb => by
      rcases hb with rfl | hb
      · exact hF _ (Or.inl rfl)
      · rcases hV b hb with hb | hb
        · exact hF _ (Or.inr hb)
        · omega⟩,
    h.a7.up hU (hne _ _ _ h.a7 (by decide) (by decide) (by decide)), h.ao.up hU (hne _ _ _ h.ao (by decide) (by decide) (by decide)), h.b.trans (hU.below hsz hF)⟩
theorem stands_does {w0 w : World} {g p gl gm q7 q k : Nat} {n bit : Int} {vb : Value} {s : Nat} {xs : List Int} (h : Stands w0 w g p gl gm q7 q k n bit vb s) (hk : k < 8) (hb : IsB w0 vb xs) (hxl : xs.length ≤ 140737488355328) (h2 : 2 ≤ s) :
    ∃ cs : List Value, cs.length = 6 ∧ w.rangeAt q (k * 6) cs ∧ Calls Try.prog 10 #[.pointer (some ⟨g, 0, none⟩), .agg cs.toArray] w fun e w' => e = .returned (.bool true) ∧ Stands w0 w' g p gl gm q7 q (k + 1) n bit vb s := by
  obtain ⟨V, D, R, hP, hm, hs, h1, hF⟩ := h.m
  obtain ⟨kd, x, y, u, z, hkd, hu, hz, hc⟩ := ops_at n bit (.slice (some ⟨q7, 0, none⟩) 1 1) vb hk
  have hI : ∃ ys, IsB w u ys ∧ ys.length ≤ 140737488355328 := by
    rcases hu with rfl | rfl | rfl
    · exact ⟨[7], isB_seven h.a7, by decide⟩
    · exact ⟨xs, hb.below h.b, hxl⟩
    · exact ⟨[], isB_nil _, by decide⟩
  obtain ⟨ys, hI, hyl⟩ := hI
  refine ⟨opV kd x y u z, rfl, fun j v hv => h.ao.cell_of (hc j v hv), ?_⟩
  refine (does_small hP hm (by omega) kd x y z hkd hI hyl).mono ?_
  rintro e w' ⟨rfl, V', D', R', hP', hm', hla, hw, hw1, hV, hU⟩
  have hl : D'.la.length = s := hla.trans hs
  refine ⟨rfl, h.step hP hF hP' hm' hl ?_ hV hU⟩
  by_cases hk0 : k = 0
  · obtain ⟨a1, a2, a3⟩ := hz hk0
    exact hw1 a1 a2 (by omega) a3
  · have := h1 (by omega)
    omega
theorem stands_new {w w1 : World} {g p gl gm s : Nat} {V : Nat → Value} (hP : Pr w1 g p gl gm V (zeroD s) ⟨s, [], [], 0, 0, 0⟩) (hBn : Born w w1 g p gl gm V) (n bit : Int) (vb : Value) : Stands w ((w1.alloc (.cells #[.int .u8 7] 5)).alloc (.cells (opsC n bit (.slice (some ⟨w1.heap.size, 0, none⟩) 1 1) vb).toArray 30)) g p gl gm w1.heap.size (w1.alloc (.cells #[.int .u8 7] 5)).heap.size 0 n bit vb s := by
  have hs1 := hBn.b.size
  have hb : Below w1.heap.size w1 ((w1.alloc (.cells #[.int .u8 7] 5)).alloc (.cells (opsC n bit (.slice (some ⟨w1.heap.size, 0, none⟩) 1 1) vb).toArray 30)) := ((Below.refl _ _).alloc (Nat.le_refl _) _).alloc (by simp) _
  obtain ⟨x1, x2, x3, x4, x5, x6, y1, y2, y3⟩ := hP.blk
  exact ⟨⟨V, _, _, ⟨⟨x1, x2, x3, x4, x5, x6, y1.below hb, y2.below hb, y3.below hb⟩, hP.dk.below hb, hP.rel⟩, ⟨Int.le_refl _, Int.le_refl _, Int.le_refl _, Int.le_refl _, fun _ => Nat.le_refl _, Nat.le_refl _, Nat.le_refl _⟩, by simp [zeroD], fun h => absurd h (by decide), hBn.fp⟩, (Arr.new w1 [.int .u8 7] _).alloc _, Arr.new (w1.alloc (.cells #[.int .u8 7] 5)) _ _, hBn.b.trans (hb.mono hs1)⟩
theorem stands_acts {w0 w : World} {g p gl gm q7 q k : Nat} {n bit : Int} {vb : Value} {s : Nat} (h : Stands w0 w g p gl gm q7 q (k + 1) n bit vb s) : ∃ ra rb rc : Int, ¬ rb = 0 ∧
    (∀ W, Below w.heap.size w W → Calls Try.prog 11 #[.pointer (some ⟨p, 0, none⟩)] W fun e w' => e = .returned (.agg [.int .i64 ra, .int .i64 rb, .int .i64 rc].toArray) ∧ Below W.heap.size W w') ∧
    (∀ W : World, Below w.heap.size w W → W.cell? ⟨g, 0, none⟩ = some (.pointer (some ⟨p, 0, none⟩)) ∧ W.rangeAt g 4 [.int .i64 ra, .int .i64 rb, .int .i64 rc]) := by
  obtain ⟨V, D, R, hP, hm, hs, h1, hF⟩ := h.m
  refine ⟨D.rd, D.wt, D.fl, by have := h1 (by omega); omega, fun W hW => ?_, fun W hW => ?_⟩
  · obtain ⟨_, _, k2, k3, k4⟩ := (hP.dk.below hW).cells
    exact acts_calls k2 k3 k4
  · obtain ⟨z1, z2, z3, z4, z5, z6, y1, _, _⟩ := hP.blk
    rw [hP.rel.rd, hP.rel.wt, hP.rel.fl] at y1
    have y2 := y1.below hW
    refine ⟨y2.cell_of rfl, fun j u hu => y2.cell_of (j := 4 + j) ?_⟩
    match j, hu with
    | 0, hu => exact hu
    | 1, hu => exact hu
    | 2, hu => exact hu
set_option maxRecDepth 100000 in
set_option maxHeartbeats 8000000 in
theorem bounds_walk {w : World} {vb : Value} {xs : List Int} (x0 n bit : Int) (h : IsB w vb xs) (hxl : xs.length ≤ 140737488355328) :
    Calls Try.prog 5 #[.int .i64 x0, .int .i64 n, vb, .int .i64 bit] w fun e w' => e = .returned (.bool true) ∧ Below w.heap.size w w' := by
  obtain ⟨ba, bn, bc, rfl⟩ := h.shape
  have HI := hide h
  have HXL := hide hxl
  clear h hxl
  by_cases hr : x0 < 2 ∨ 65536 < x0
  · have HSt := hide (started_bad (w := w) hr)
    clear hr
    go_enter Try.func5, Try.ntmps5
    go_wp2_with (go_at_call 9; refine (unhide HSt).mono ?_; rintro e w1 ⟨rfl, hB1⟩)
    go_ret
    exact ⟨rfl, hB1⟩
  · obtain ⟨s, rfl⟩ := Int.eq_ofNat_of_zero_le (show 0 ≤ x0 by omega)
    have HSt := hide (started_good (w := w) (n := s) (by omega) (by omega))
    have HS2 : Hid (2 ≤ s) := hide (by omega)
    clear hr
    go_enter Try.func5, Try.ntmps5
    go_wp2_with (first
      | (go_at_call 9; refine (unhide HSt).mono ?_; rintro e w1 ⟨g, p, gl, gm, V, rfl, hP, hBn⟩; have HN := hide (stands_new hP hBn n bit (.slice ba bn bc)); clear hP hBn)
      | (refine wpList_buildSlice rfl 27 1 _ rfl (.slice (some ⟨w1.heap.size, 0, none⟩) 1 1) (w' := w1.alloc (.cells #[.int .u8 7] 5)) (by kernel_rfl) ?_)
      | (refine wpList_buildSlice rfl 22 8 _ rfl (.slice (some ⟨(w1.alloc (.cells #[.int .u8 7] 5)).heap.size, 0, none⟩) 8 8) (w' := (w1.alloc (.cells #[.int .u8 7] 5)).alloc (.cells (opsC n bit (.slice (some ⟨w1.heap.size, 0, none⟩) 1 1) (.slice ba bn bc)).toArray 30)) (by kernel_rfl) ?_; generalize (w1.alloc (.cells #[.int .u8 7] 5)).alloc (.cells (opsC n bit (.slice (some ⟨w1.heap.size, 0, none⟩) 1 1) (.slice ba bn bc)).toArray 30) = w2 at HN ⊢; generalize (w1.alloc (.cells #[.int .u8 7] 5)).heap.size = q at HN ⊢))
    generalize w1.heap.size = q7 at *
    go_loopw [12] (fun iv wr => ∃ k : Nat, k ≤ 8 ∧ iv = .int .i64 (k : Int) ∧ Hid (Stands w wr g p gl gm q7 q k n bit (.slice ba bn bc) s)) (fun iv _ => 8 - (intOf iv).toNat)
    case atStart => exact ⟨0, by omega, rfl, HN⟩
    case round =>
      clear HN
      obtain ⟨k, hk, rfl, HT⟩ := hrel
      by_cases hlt : k < 8
      · obtain ⟨cs, hcl, hrg, hca⟩ := stands_does HT.out hlt HI.out HXL.out HS2.out
        have HCA := hide hca
        have HRG := hide hrg
        have HCL := hide hcl
        clear hca hrg hcl
        have hund := Try.underlying30
        have HIF : Hid ((Try.prog.info? 30).map (·.size) = some cs.length) := hide (by rw [HCL.out]; exact infoOp)
        go_wp2_with (first
          | (refine wpList_load_mid rfl 30 (.tmp 49) rfl q (k * 6) (by go_simp) cs _ HRG.out hund rfl HIF.out ?_)
          | (go_at_call 10; refine (unhide HCA).mono ?_; rintro e w3 ⟨rfl, hT3⟩; have HT3 := hide hT3; clear hT3))
        go_roundw
        case rel => exact ⟨k + 1, by omega, by go_num, HT3⟩
        case measure => simp [intOf]; omega
      · obtain rfl : k = 8 := by omega
        obtain ⟨ra, rb, rc, hrb, hac, hld⟩ := stands_acts (k := 7) HT.out
        have HAc := hide hac
        have HLd := hide hld
        have HB := hide HT.out.b
        clear hac hld HT
        go_wp2
        refine wp_region_held_drew (S := fun W => W.cell? ⟨g, 0, none⟩ = some (.pointer (some ⟨p, 0, none⟩)) ∧ W.rangeAt g 4 [.int .i64 ra, .int .i64 rb, .int .i64 rc]) (by kernel_rfl) (unhide HLd _ (Below.refl _ _).drew) (fun hHeld => ?_)
        refine wpAnyH_take (i := 0) (v := .pointer (some ⟨g, 0, none⟩)) rfl (by kernel_rfl) (by kernel_rfl) (by kernel_rfl) (fun _ _ _ h => h) (Or.inl ⟨by rfl, fun w hSw => by obtain ⟨hS1, hS2⟩ := hSw; go_simp⟩) (by assumption) ?_
        simp only [List.getElem_toArray, List.getElem_cons_zero, Act.put, List.setIfInBounds_toArray, List.set_cons_zero, List.set_cons_succ]
        refine wpAnyH_take (i := 1) (v := .pointer (some ⟨g, 0, none⟩)) rfl (by kernel_rfl) (by kernel_rfl) (by kernel_rfl) (fun _ _ _ h => h) (Or.inl ⟨by rfl, fun w hSw => by obtain ⟨hS1, hS2⟩ := hSw; go_simp⟩) (by assumption) ?_
        simp only [List.getElem_toArray, List.getElem_cons_succ, List.getElem_cons_zero, Act.put, List.setIfInBounds_toArray, List.set_cons_zero, List.set_cons_succ]
        refine wpAnyH_take (i := 2) (v := .pointer (some ⟨g, 0, none⟩)) rfl (by kernel_rfl) (by kernel_rfl) (by kernel_rfl) (fun _ _ _ h => h) (Or.inl ⟨by rfl, fun w hSw => by obtain ⟨hS1, hS2⟩ := hSw; go_simp⟩) (by assumption) ?_
        simp only [List.getElem_toArray, List.getElem_cons_succ, List.getElem_cons_zero, Act.put, List.setIfInBounds_toArray, List.set_cons_zero, List.set_cons_succ]
        refine wpAnyH_take (i := 3) (v := .pointer (some ⟨p, 0, none⟩)) rfl (by kernel_rfl) (by kernel_rfl) (by kernel_rfl) (fun _ _ _ h => h) (Or.inl ⟨by rfl, fun w hSw => by obtain ⟨hS1, hS2⟩ := hSw; go_simp⟩) (by assumption) ?_
        simp only [List.getElem_toArray, List.getElem_cons_succ, List.getElem_cons_zero, Act.put, List.setIfInBounds_toArray, List.set_cons_zero, List.set_cons_succ]
        refine wpAnyH_take (i := 5) (v := .pointer (some ⟨g, 0, none⟩)) rfl (by kernel_rfl) (by kernel_rfl) (by kernel_rfl) (fun _ _ _ h => h) (Or.inl ⟨by rfl, fun w hSw => by obtain ⟨hS1, hS2⟩ := hSw; go_simp⟩) (by assumption) ?_
        simp only [List.getElem_toArray, List.getElem_cons_succ, List.getElem_cons_zero, Act.put, List.setIfInBounds_toArray, List.set_cons_zero, List.set_cons_succ]
        refine wpAnyH_take (i := 6) (v := .pointer (some ⟨g, 0, none⟩)) rfl (by kernel_rfl) (by kernel_rfl) (by kernel_rfl) (fun _ _ _ h => h) (Or.inl ⟨by rfl, fun w hSw => by obtain ⟨hS1, hS2⟩ := hSw; go_simp⟩) (by assumption) ?_
        simp only [List.getElem_toArray, List.getElem_cons_succ, List.getElem_cons_zero, Act.put, List.setIfInBounds_toArray, List.set_cons_zero, List.set_cons_succ]
        refine wpAnyH_take (i := 7) (v := .pointer (some ⟨g, 1, none⟩)) rfl (by kernel_rfl) (by kernel_rfl) (by kernel_rfl) (fun _ _ _ h => h) (Or.inl ⟨by rfl, fun w hSw => by obtain ⟨hS1, hS2⟩ := hSw; go_simp⟩) (by assumption) ?_
        simp only [List.getElem_toArray, List.getElem_cons_succ, List.getElem_cons_zero, Act.put, List.setIfInBounds_toArray, List.set_cons_zero, List.set_cons_succ]
        refine wpAnyH_take (i := 8) (v := .pointer (some ⟨g, 4, none⟩)) rfl (by kernel_rfl) (by kernel_rfl) (by kernel_rfl) (fun _ _ _ h => h) (Or.inl ⟨by rfl, fun w hSw => by obtain ⟨hS1, hS2⟩ := hSw; go_simp⟩) (by assumption) ?_
        simp only [List.getElem_toArray, List.getElem_cons_succ, List.getElem_cons_zero, Act.put, List.setIfInBounds_toArray, List.set_cons_zero, List.set_cons_succ]
        refine wpAnyH_take (i := 9) (v := .agg ([.int .i64 ra, .int .i64 rb, .int .i64 rc]).toArray) rfl (by kernel_rfl) (by kernel_rfl) (by kernel_rfl) (fun _ _ _ h => h) (yieldsIf_load_mid (by rfl) _ _ rfl _ _ rfl _ _ (fun w hSw => hSw.2) Try.underlying32 rfl info32) (by assumption) ?_
        simp only [List.getElem_toArray, List.getElem_cons_succ, List.getElem_cons_zero, Act.put, List.setIfInBounds_toArray, List.set_cons_zero, List.set_cons_succ]
        refine wpAnyH_ready (rs := [4]) (by kernel_rfl) (by simp) (AllReadyH.cons rfl (fun K hK => ?_) AllReadyH.nil)
        refine step_call1Q rfl 11 acts_enter (.tmp 56) _ rfl rfl (unhide HAc _ (Below.refl _ _).drew) ?_
        rintro e w4 ⟨rfl, hb4'⟩
        have hb4 : Below wr.heap.size wr w4 := below_drew hb4'
        refine ⟨_, rfl, ?_⟩
        refine hK.out _ _ (unhide HLd _ hb4) (fun hHeld2 => ?_)
        clear hK K
        simp only [List.getElem_toArray, List.getElem_cons_succ, List.getElem_cons_zero, Act.put, List.setIfInBounds_toArray, List.set_cons_zero, List.set_cons_succ]
        refine wpAnyH_take (i := 10) (v := .bool true) rfl (by kernel_rfl) (by kernel_rfl) (by kernel_rfl) (fun _ _ _ h => h) (Or.inl ⟨by rfl, fun w hSw => by obtain ⟨hS1, hS2⟩ := hSw; go_simp⟩) (by assumption) ?_
        simp only [List.getElem_toArray, List.getElem_cons_succ, List.getElem_cons_zero, Act.put, List.setIfInBounds_toArray, List.set_cons_zero, List.set_cons_succ]
        refine wpAnyH_take (i := 11) (v := .bool true) rfl (by kernel_rfl) (by kernel_rfl) (by kernel_rfl) (fun _ _ _ h => h) (Or.inl ⟨by rfl, fun w hSw => by obtain ⟨hS1, hS2⟩ := hSw; go_simp⟩) (by assumption) ?_
        simp only [List.getElem_toArray, List.getElem_cons_succ, List.getElem_cons_zero, Act.put, List.setIfInBounds_toArray, List.set_cons_zero, List.set_cons_succ]
        refine wpAnyH_take (i := 12) (v := .pointer (some ⟨g, 0, none⟩)) rfl (by kernel_rfl) (by kernel_rfl) (by kernel_rfl) (fun _ _ _ h => h) (Or.inl ⟨by rfl, fun w hSw => by obtain ⟨hS1, hS2⟩ := hSw; go_simp⟩) (by assumption) ?_
        simp only [List.getElem_toArray, List.getElem_cons_succ, List.getElem_cons_zero, Act.put, List.setIfInBounds_toArray, List.set_cons_zero, List.set_cons_succ]
        refine wpAnyH_take (i := 13) (v := .pointer (some ⟨g, 0, none⟩)) rfl (by kernel_rfl) (by kernel_rfl) (by kernel_rfl) (fun _ _ _ h => h) (Or.inl ⟨by rfl, fun w hSw => by obtain ⟨hS1, hS2⟩ := hSw; go_simp⟩) (by assumption) ?_
        simp only [List.getElem_toArray, List.getElem_cons_succ, List.getElem_cons_zero, Act.put, List.setIfInBounds_toArray, List.set_cons_zero, List.set_cons_succ]
        refine wpAnyH_take (i := 14) (v := .pointer (some ⟨g, 0, none⟩)) rfl (by kernel_rfl) (by kernel_rfl) (by kernel_rfl) (fun _ _ _ h => h) (Or.inl ⟨by rfl, fun w hSw => by obtain ⟨hS1, hS2⟩ := hSw; go_simp⟩) (by assumption) ?_
        simp only [List.getElem_toArray, List.getElem_cons_succ, List.getElem_cons_zero, Act.put, List.setIfInBounds_toArray, List.set_cons_zero, List.set_cons_succ]
        refine wpAnyH_take (i := 15) (v := .pointer (some ⟨p, 0, none⟩)) rfl (by kernel_rfl) (by kernel_rfl) (by kernel_rfl) (fun _ _ _ h => h) (Or.inl ⟨by rfl, fun w hSw => by obtain ⟨hS1, hS2⟩ := hSw; go_simp⟩) (by assumption) ?_
        simp only [List.getElem_toArray, List.getElem_cons_succ, List.getElem_cons_zero, Act.put, List.setIfInBounds_toArray, List.set_cons_zero, List.set_cons_succ]
        refine wpAnyH_take (i := 17) (v := .agg #[.int .i64 0, .int .i64 0, .int .i64 0]) rfl (by kernel_rfl) (by kernel_rfl) (by kernel_rfl) (fun _ _ _ h => h) (Or.inl ⟨by rfl, fun w hSw => by obtain ⟨hS1, hS2⟩ := hSw; go_simp⟩) (by assumption) ?_
        simp only [List.getElem_toArray, List.getElem_cons_succ, List.getElem_cons_zero, Act.put, List.setIfInBounds_toArray, List.set_cons_zero, List.set_cons_succ]
        refine wpAnyH_ready (rs := [16]) (by kernel_rfl) (by simp) (AllReadyH.cons rfl (fun K hK => ?_) AllReadyH.nil)
        refine step_call1Gd (by rfl) 11 acts_enter (.tmp 68) _ rfl rfl (unhide HAc _ hb4) ?_
        rintro e w5 ⟨rfl, hb5'⟩
        have hb5 : Below wr.heap.size wr w5 := below_then hb4 hb5'
        refine ⟨_, rfl, ?_⟩
        refine hK.out _ _ (unhide HLd _ hb5) (fun hHeld3 => ?_)
        clear hK K
        simp only [List.getElem_toArray, List.getElem_cons_succ, List.getElem_cons_zero, Act.put, List.setIfInBounds_toArray, List.set_cons_zero, List.set_cons_succ]
        refine wpAnyH_take (i := 18) (v := .bool true) rfl (by kernel_rfl) (by kernel_rfl) (by kernel_rfl) (fun _ _ _ h => h) (Or.inl ⟨by rfl, fun w hSw => by obtain ⟨hS1, hS2⟩ := hSw; go_simp⟩) (by assumption) ?_
        simp only [List.getElem_toArray, List.getElem_cons_succ, List.getElem_cons_zero, Act.put, List.setIfInBounds_toArray, List.set_cons_zero, List.set_cons_succ]
        refine wpAnyH_take (i := 19) (v := .bool true) rfl (by kernel_rfl) (by kernel_rfl) (by kernel_rfl) (fun _ _ _ h => h) (Or.inl ⟨by rfl, fun w hSw => by obtain ⟨hS1, hS2⟩ := hSw; go_simp⟩) (by assumption) ?_
        simp only [List.getElem_toArray, List.getElem_cons_succ, List.getElem_cons_zero, Act.put, List.setIfInBounds_toArray, List.set_cons_zero, List.set_cons_succ]
        refine wpAnyH_take (i := 20) (v := .bool true) rfl (by kernel_rfl) (by kernel_rfl) (by kernel_rfl) (fun _ _ _ h => h) (Or.inl ⟨by rfl, fun w hSw => by obtain ⟨hS1, hS2⟩ := hSw; go_simp⟩) (by assumption) ?_
        simp only [List.getElem_toArray, List.getElem_cons_succ, List.getElem_cons_zero, Act.put, List.setIfInBounds_toArray, List.set_cons_zero, List.set_cons_succ]
        refine wpAnyH_done (by kernel_rfl) ?_ _
        go_wp2
        go_ret
        exact ⟨rfl, HB.out.trans (hb5.mono HB.out.size)⟩
end Go.Proofs.Ytfgjhlnaaopdeaa
