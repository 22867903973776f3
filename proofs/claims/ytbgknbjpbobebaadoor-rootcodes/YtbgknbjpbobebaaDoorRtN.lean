/- What addNumbers, chainMayBe and mayBe answer. -/
import Derived.Test.YtbgknbjpbobebaaDoorRtM
import Derived.Deep.QuietTactic
namespace Go.Proofs.YtbgknbjpbobebaaDoor
open Go.RowKit Go.Maps

theorem E8.neT {w1 W : World} {B : Nat} {u : Value} {xs : List Int} (h : E8 w1 W B u xs) {g : Nat} {t : TypeId} {cs : List Value} (hA : Arr W g t cs) (ht : t ≠ 5) : some g ≠ u.ownBlock := fun e => by
  rcases h.1.1.2 with ⟨rfl, _⟩ | ⟨g', cap, cur, rfl, _, hgg, _⟩
  · cases e
  · simp only [Value.ownBlock, Option.some.injEq] at e
    subst e
    unfold Arr at hA
    rw [hgg] at hA
    simp only [Option.some.injEq, Obj.cells.injEq] at hA
    exact ht hA.2.1.symm
theorem sdrewN (w : World) (n : Nat) : Below w.heap.size w (w.drewN n) := ⟨rfl, rfl, rfl, Nat.le_refl _, fun _ _ => rfl⟩
theorem fBs_take {n k : Nat} {l : List Int} (hk : k < l.length) : fBs n (l.take (k + 1)) = fBs n (l.take k) ++ fB (l.getD k 0) n := by
  rw [List.take_succ_eq_append_getElem hk, fBs_snoc, List.getD_eq_getElem?_getD, List.getElem?_eq_getElem hk]
  rfl
set_option maxRecDepth 100000 in
set_option maxHeartbeats 2000000 in
theorem addNs_calls {w1 w : World} {B n g o c : Nat} {t : TypeId} {cs : List Value} {v : Value} {xs Vs : List Int} (h : E8 w1 w B v xs) (hA : Arr w g t cs) (ht : t ≠ 5) (hcs : ∀ j, j < Vs.length → cs[o + j]? = some (.int .i64 (Vs.getD j 0))) (hV : ∀ V ∈ Vs, 0 ≤ V ∧ V < 2 ^ (8 * n) ∧ V ≤ 9223372036854775807) (h1 : 1 ≤ n) (h8 : n ≤ 8) (hl : xs.length ≤ 100000) (hVl : Vs.length ≤ 16) (_hc : Vs.length ≤ c) (_hcm : c ≤ 1000000) :
    Calls Tryd.prog 32 #[v, .int .i64 (n : Int), .slice (some ⟨g, o, none⟩) Vs.length c] w fun e w' => ∃ v', e = .returned v' ∧ E8 w1 w' B v' (xs ++ fBs n Vs) ∧ Arr w' g t cs := by
  obtain ⟨va, vc, rfl⟩ := h.shape
  have HE0 : Hid (E8 w1 w B (.slice va xs.length vc) (xs ++ fBs n (Vs.take 0))) := hide (by rw [List.take_zero]; show E8 _ _ _ _ (xs ++ []); rw [List.append_nil]; exact h)
  have HA0 := hide hA
  have HCS := hide hcs
  have HV := hide hV
  have HALL : Hid (fBs n (Vs.take Vs.length) = fBs n Vs) := hide (by rw [List.take_length])
  have HST : Hid (∀ k, k < Vs.length → xs ++ fBs n (Vs.take k) ++ fB (Vs.getD k 0) n = xs ++ fBs n (Vs.take (k + 1))) := hide (fun k hk => by rw [fBs_take hk, List.append_assoc])
  have HLX : Hid (∀ k, (xs ++ fBs n (Vs.take k)).length ≤ 110000) := hide (fun k => by
    rw [List.length_append, fBs_len]
    have : (Vs.take k).length ≤ 16 := by rw [List.length_take]; omega
    have := Nat.mul_le_mul h8 this
    omega)
  have HM : Hid (∀ k, k < Vs.length → Vs.getD k 0 ∈ Vs) := hide (fun k hk => getD_mem hk)
  clear h hA hcs hV
  generalize hm : Vs.length = m at *
  generalize hxn : xs.length = xn at *
  clear hm hxn
  go_enter Tryd.func32, Tryd.ntmps32
  go_wp2_with fail
  go_loopw [0, 13] (fun bv i W => ∃ (k mm cc : Nat) (a : Option Addr), k ≤ m ∧ i = .int .i64 k ∧ bv = .slice a mm cc ∧ Hid (E8 w1 W B bv (xs ++ fBs n (Vs.take k))) ∧ Hid (Arr W g t cs)) (fun _ i _ => m - (intOf i).toNat)
  case atStart => exact ⟨0, _, _, _, Nat.zero_le _, rfl, rfl, HE0, HA0⟩
  case round =>
    clear HE0 HA0
    obtain ⟨k, mm, cc, a, hk, rfl, rfl, HE, HA⟩ := hrel
    by_cases hlt : k < m
    · have hcl : wr.cell? ⟨g, o + k, none⟩ = some (.int .i64 (Vs.getD k 0)) := (HA.out.cell _).trans (unhide HCS k hlt)
      obtain ⟨v0, v1, v2⟩ := unhide HV _ (unhide HM k hlt)
      have HSTK := hide (unhide HST k hlt)
      have HLK := hide (unhide HLX k)
      generalize Vs.getD k 0 = V at *
      generalize xs ++ fBs n (Vs.take k) = ys at *
      have hwv : IntKind.u64.wrap V = V := by rw [IntKind.wrap_u64]; omega
      have HF := hide (fixed_in V n wr v0 h1 h8 (fits_no v0 v1))
      clear v0 v1 v2
      go_wp2_with fail
      refine (unhide HF).mono ?_
      rintro e w2 ⟨u, rfl, hr, hb⟩
      have ho1 : Own8 w2 wr.heap.size u (fB V n) := ⟨by rw [fB_len]; exact hr, fun x hx => fB_bytes V n x hx⟩
      obtain ⟨ua, un, uc, rfl⟩ := ho1.shape
      have hE2 := HE.out.below hb
      have HI := hide ho1.isB
      have HA2 := hide (HA.out.below hb)
      have HE2 := hide hE2
      have hll : ys.length + (fB V n).length ≤ 140737488355328 := by rw [fB_len]; have := HLK.out; omega
      clear HF hr hb ho1 hE2 HE HA
      go_wp2_with (first
        | (at_builtin; refine wpList_appB rfl (.tmp 24) (.tmp 25) rfl rfl HE2.out.1 rfl HI.out hll HE2.out.2.1 ?_; intro v3 w3 ho3 hg3
           have HA3 := hide (arr_grown HA2.out hg3 (HE2.out.neT HA2.out ht))
           have hE3 := HE2.out.app ho3 hg3
           rw [HSTK.out] at hE3
           obtain ⟨a3, n3, c3, rfl⟩ := ho3.shape
           have HE3 := hide hE3
           clear ho3 hg3 hE3 HA2 HE2 HI)
        | fail)
      go_roundw
      case rel => exact ⟨k + 1, _, _, _, by omega, by go_num, rfl, HE3, HA3⟩
      case measure => simp [intOf]; omega
    · have HKM : Hid (k = m) := hide (by omega)
      have HE9 : Hid (E8 w1 wr B (.slice a mm cc) (xs ++ fBs n Vs)) := hide (by have := HE.out; rw [HKM.out, HALL.out] at this; exact this)
      clear HE
      go_wp2
      go_ret
      exact ⟨_, rfl, HE9.out, HA.out⟩
open Classical in
/-- May a chain's First and Len be? -/
noncomputable def fitB (sc j f l : Int) : Bool := decide (2 + j ≤ f ∧ f ≤ sc - 1) && decide (0 ≤ l ∧ l ≤ 1048576)
set_option maxRecDepth 100000 in
set_option maxHeartbeats 2000000 in
theorem chainMay_calls {w : World} {s : SL} {g o c : Nat} {t : TypeId} {cs : List Value} {f l : Int} (h0 : 2 ≤ s.sc) (h1 : s.sc ≤ 65536) (h2 : 8 ≤ s.j) (h3 : s.j ≤ 1024) (hA : Arr w g t cs) (hf : cs[o]? = some (.int .i64 f)) (hl : cs[o + 1]? = some (.int .i64 l)) (_hc : 2 ≤ c) (_hcm : c ≤ 1000000) :
    Calls Tryd.prog 59 #[.agg (slV s).toArray, .slice (some ⟨g, o, none⟩) 2 c] w fun e w' => e = .returned (.bool (fitB s.sc s.j f l)) ∧ Below w.heap.size w w' := by
  have HF : Hid (∀ w1, Arr w1 w.heap.size 27 (slV s) → Below w.heap.size w w1 → (w1.cell? ⟨w.heap.size, 0, none⟩ = some (.int .i64 s.sc) ∧ w1.cell? ⟨w.heap.size, 1, none⟩ = some (.int .i64 s.j) ∧ w1.cell? ⟨g, o, none⟩ = some (.int .i64 f) ∧ w1.cell? ⟨g, o + 1, none⟩ = some (.int .i64 l))) := hide (fun w1 hA1 hb => by
    obtain ⟨e0, e1, _⟩ := slV_at s
    exact ⟨(hA1.cell 0).trans e0, (hA1.cell 1).trans e1, ((hA.below hb).cell _).trans hf, ((hA.below hb).cell _).trans hl⟩)
  have HR : Hid (fitB s.sc s.j f l = (decide (2 + s.j ≤ f ∧ f ≤ s.sc - 1) && decide (0 ≤ l ∧ l ≤ 1048576))) := hide (by unfold fitB; congr)
  generalize fitB s.sc s.j f l = FB at *
  generalize slV s = cs1 at *
  generalize s.sc = x0 at *
  generalize s.j = x1 at *
  clear hA hf hl
  have ea : IntKind.i64.wrap (2 + x1) = 2 + x1 := IntWalk.i64_in _ (by omega)
  have eb : IntKind.i64.wrap (x0 - 1) = x0 - 1 := IntWalk.i64_in _ (by omega)
  obtain ⟨lo, hlo⟩ : ∃ lo, lo = 2 + x1 := ⟨_, rfl⟩
  obtain ⟨hi, hhi⟩ : ∃ lo, lo = x0 - 1 := ⟨_, rfl⟩
  rw [← hlo] at ea HR
  rw [← hhi] at eb HR
  have HW : Hid (∀ W, Calls Tryd.prog 58 #[.int .i64 f, .int .i64 lo, .int .i64 hi] W fun e w' => e = .returned (.bool (decide (lo ≤ f ∧ f ≤ hi))) ∧ w' = W) := hide (fun W => within_calls W f lo hi)
  have HW2 : Hid (∀ W, Calls Tryd.prog 58 #[.int .i64 l, .int .i64 0, .int .i64 1048576] W fun e w' => e = .returned (.bool (decide (0 ≤ l ∧ l ≤ 1048576))) ∧ w' = W) := hide (fun W => within_calls W l 0 1048576)
  rw [hlo] at ea
  rw [hhi] at eb
  have ea' : 2 + x1 = lo := hlo.symm
  have eb' : x0 - 1 = hi := hhi.symm
  clear hlo hhi
  generalize decide (lo ≤ f ∧ f ≤ hi) = p at *
  generalize decide (0 ≤ l ∧ l ≤ 1048576) = q at *
  go_enter Tryd.func59, Tryd.ntmps59
  go_wp2_with (first
    | (refine wpList_boxJ rfl 27 (.tmp 0) rfl rfl ?_; intro w1 hA1 hb1 hs1
       obtain ⟨c0, c1, c2, c3⟩ := unhide HF w1 hA1 hb1
       have HB1 := hide hb1
       clear hA1 hb1 hs1)
    | fail)
  go_quiet (fail)
  go_wp2_with fail
  have HB2 := hide (below_then HB1.out (sdrewN w1 nq))
  refine (unhide HW _).mono ?_
  rintro e w2 ⟨rfl, hw2⟩
  obtain rfl := hw2.symm
  clear hw2
  cases p with
  | false =>
    go_wp2
    go_ret
    exact ⟨by rw [HR.out]; rfl, HB2.out⟩
  | true =>
    go_wp2_with fail
    refine (unhide HW2 _).mono ?_
    rintro e w2 ⟨rfl, hw2⟩
    obtain rfl := hw2.symm
    clear hw2
    go_wp2
    go_ret
    exact ⟨by rw [HR.out]; rfl, HB2.out⟩
theorem fitB_iff (sc j : Int) (r : JF) : fitB sc j r.f r.l = true ↔ fitF sc j r := by
  unfold fitB fitF
  simp [and_assoc]
theorem smin_two {w : World} (ts : Array TypeId) (t : TypeId) (k k' : IntKind) (x y : Int) : (Builtin.min_ ts t #[.int k x, .int k' y]).run Tryd.prog w = .ok (.int k (min x y)) w := by
  have : (Builtin.min_ ts t #[.int k x, .int k' y]).run Tryd.prog w = .ok (.int k (if y < x then y else x)) w := by simp [Builtin.min_, Builtin.min2]
  rw [this]
  congr 2
  by_cases h : y < x
  · rw [if_pos h]; omega
  · rw [if_neg h]; omega
section
variable {s : SL}
theorem may_sc (h : ¬ (2 ≤ s.sc ∧ s.sc ≤ 65536)) : s.may = false := SL.may_no fun hm => h ⟨hm.sc0, hm.sc1⟩
theorem may_j (h : ¬ (8 ≤ s.j ∧ s.j ≤ min 1024 (s.sc - 4))) : s.may = false := SL.may_no fun hm => h ⟨hm.j0, by have := hm.j1; have := hm.js; omega⟩
theorem may_cnt {k : Nat} (hk : k < 3) (h : ¬ (0 ≤ [s.t, s.g, s.s].getD k 0 ∧ [s.t, s.g, s.s].getD k 0 ≤ 1099511627776)) : s.may = false := SL.may_no fun hm => h (by
  match k, hk with
  | 0, _ => exact hm.t
  | 1, _ => exact hm.g
  | 2, _ => exact hm.s)
theorem may_all (h0 : 2 ≤ s.sc ∧ s.sc ≤ 65536) (h1 : 8 ≤ s.j ∧ s.j ≤ min 1024 (s.sc - 4)) (h2 : ∀ k, k < 3 → 0 ≤ [s.t, s.g, s.s].getD k 0 ∧ [s.t, s.g, s.s].getD k 0 ≤ 1099511627776) : s.may = (fitB s.sc s.j s.r.f s.r.l && fitB s.sc s.j s.m.f s.m.l) := by
  have key : s.may = true ↔ (fitB s.sc s.j s.r.f s.r.l && fitB s.sc s.j s.m.f s.m.l) = true := by
    rw [SL.may_iff, Bool.and_eq_true, fitB_iff, fitB_iff]
    refine ⟨fun hm => ⟨hm.r, hm.m⟩, fun ⟨hr, hm⟩ => ⟨h0.1, h0.2, h1.1, by omega, by omega, h2 0 (by decide), h2 1 (by decide), h2 2 (by decide), hr, hm⟩⟩
  cases h : s.may with
  | true => exact ((key.1 h).symm)
  | false =>
    cases h' : (fitB s.sc s.j s.r.f s.r.l && fitB s.sc s.j s.m.f s.m.l) with
    | false => rfl
    | true => rw [key.2 h'] at h; cases h
end
end Go.Proofs.YtbgknbjpbobebaaDoor
