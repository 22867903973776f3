/- The document's Free, TakeAll, Take. -/
import Derived.Test.YtifmfnkpogconaaDoorRsNew
namespace Go.Proofs.YtifmfnkpogconaaDoor
open Go.RowKit

theorem allR_le (fr : Nat) (bs : List Bool) : (allR fr bs).length ≤ bs.length := by
  unfold allR
  rw [List.length_map]
  exact setR_le bs bs.length
theorem allR_mem {fr : Nat} {bs : List Bool} {n : Nat} (h : n ∈ allR fr bs) : fr ≤ n ∧ n - fr < bs.length := by
  unfold allR setR at h
  simp only [List.mem_map, List.mem_filter, List.mem_range] at h
  obtain ⟨a, ⟨h1, _⟩, rfl⟩ := h
  omega
set_option maxRecDepth 100000 in
set_option maxHeartbeats 2000000 in
theorem rfree_calls {w : World} {B g gb fr to_ : Nat} {bs : List Bool} (h : Rs w B g gb fr to_ bs) :
    Calls Tryd.prog 36 #[.pointer (some ⟨g, 0, none⟩)] w fun e w' => e = .returned (.int .i64 ((allR fr bs).length : Int)) ∧ Below w.heap.size w w' := by
  have HL := hide (rlist_calls h)
  clear h
  go_enter Tryd.func36, Tryd.ntmps36
  go_wp2_with fail
  refine (unhide HL).mono ?_
  rintro e w1 ⟨v, rfl, hrow, hb1⟩
  obtain ⟨al, cl, hvl⟩ := hrow.shape
  rw [iV_len] at hvl
  subst hvl
  go_wp2
  go_ret
  exact ⟨rfl, hb1⟩
/-- Those are free no more. -/
def clrR (fr : Nat) (bs : List Bool) (l : List Nat) : List Bool := l.foldl (fun b n => b.set (n - fr) false) bs
theorem clrR_len (fr : Nat) (l : List Nat) : ∀ bs : List Bool, (clrR fr bs l).length = bs.length := by
  induction l with
  | nil => intro bs; rfl
  | cons n l ih => intro bs; show (clrR fr (bs.set (n - fr) false) l).length = _; rw [ih, List.length_set]
theorem elemI : Tryd.prog.underlying 49 = some (.slice (Tryd.prog.elem 49)) := by kernel_rfl
theorem sizeI (W : World) : (sizeOf (Tryd.prog.elem 49)).run Tryd.prog W = .ok 1 W := by kernel_rfl
theorem Row.pre {w : World} {B : Nat} {t : TypeId} {al : Option Addr} {n c : Nat} {xs : List Value} (h : Row w B t (.slice al n c) xs) (k : Nat) (hk : k ≤ xs.length) : Row w B t (.slice al k c) (xs.take k) := by
  rcases h.2 with ⟨hh, hx⟩ | ⟨g, cap, cur, hh, h1, h2, h3, h4, h5, h6⟩
  · injection hh with e1 e2 e3
    subst e1 e3
    obtain rfl : xs = [] := List.eq_nil_of_length_eq_zero hx
    obtain rfl : k = 0 := by simpa using hk
    exact Row.nil _ _ _
  · injection hh with e1 e2 e3
    subst e1 e3
    have hl : (xs.take k).length = k := by rw [List.length_take]; omega
    refine ⟨by rw [hl, Nat.mul_one], .inr ⟨g, c, cur, by rw [hl], h1, h2, by rw [hl]; omega, h4, h5, ?_⟩⟩
    rw [hl, Nat.mul_one, ← h6, List.take_take, Nat.mul_one, Nat.min_eq_left hk]
theorem sliceI_h {w : World} {B : Nat} {t : TypeId} {al : Option Addr} {n c : Nat} {xs : List Value} (h : Row w B t (.slice al n c) xs) (k : Nat) (hk : k ≤ xs.length) (W : World) : (Instr.sliceAt 49 (.slice al n c) none (some (.int .i64 (k : Int))) none).run Tryd.prog W = .ok (.slice al k c) W := by
  rcases h.2 with ⟨hh, hx⟩ | ⟨g, cap, cur, hh, h1, h2, h3, h4, h5, h6⟩
  · injection hh with e1 e2 e3
    subst e1 e2 e3
    rw [run_sliceAt_slice W _ _ _ _ _ elemI, run_slice_h W _ none 0 0 elemI .i64 k (by omega) (by omega), sizeI]
    simp [Result.andThen, sliced]
  · injection hh with e1 e2 e3
    subst e1 e2 e3
    unfold maxLen at h4
    rw [run_sliceAt_slice W _ _ _ _ _ elemI, run_slice_h W _ (some ⟨g, 0, none⟩) xs.length c elemI .i64 k (by omega) (by omega), sizeI]
    simp [Result.andThen, sliced, Addr.add]
set_option maxRecDepth 100000 in
set_option maxHeartbeats 2000000 in
theorem rtakeAll_no {w : World} {B g gb fr to_ : Nat} {bs : List Bool} (h : Rs w B g gb fr to_ bs) (k : Int) (hk : k < 0 ∨ ((allR fr bs).length : Int) < k) :
    Calls Tryd.prog 47 #[.pointer (some ⟨g, 0, none⟩), .int .i64 k] w fun e w' => e = .returned (.tuple #[.slice none 0 0, .bool false]) ∧ Below w.heap.size w w' := by
  have HL := hide (rlist_calls h)
  clear h
  go_enter Tryd.func47, Tryd.ntmps47
  go_wp2_with fail
  refine (unhide HL).mono ?_
  rintro e w1 ⟨v, rfl, hrow, hb1⟩
  obtain ⟨al, cl, hvl⟩ := hrow.shape
  rw [iV_len] at hvl
  subst hvl
  generalize (allR fr bs).length = m at hk ⊢
  clear hrow
  by_cases h0 : k < 0
  · have g1 : decide (k < 0) = true := decide_eq_true h0
    go_wp2
    go_ret2
    exact ⟨rfl, hb1⟩
  · have g1 : decide (k < 0) = false := decide_eq_false h0
    have g2 : decide (k > (m : Int)) = true := decide_eq_true (by omega)
    have g3 : (m : Int) < k := by omega
    go_wp2
    go_ret2
    exact ⟨rfl, hb1⟩
set_option maxRecDepth 100000 in
set_option maxHeartbeats 4000000 in
theorem rtakeAll_calls {w : World} {B g gb fr to_ : Nat} {bs : List Bool} (h : Rs w B g gb fr to_ bs) (k : Nat) (hk : k ≤ (allR fr bs).length) :
    Calls Tryd.prog 47 #[.pointer (some ⟨g, 0, none⟩), .int .i64 (k : Int)] w fun e w' => ∃ v, e = .returned (.tuple #[v, .bool true]) ∧ Row w' w.heap.size 3 v (iV ((allR fr bs).take k)) ∧ Rs w' B g gb fr to_ (clrR fr bs ((allR fr bs).take k)) ∧ w.grownBy w' (some gb) := by
  have HL := hide (rlist_calls h)
  have hgb : gb < w.heap.size := by
    obtain ⟨c, _, _, _, _, _, _, _, _, h3⟩ := h.view
    have := h.rng
    have := h.len
    exact World.block_lt_of_cell? _ _ (h3 0 (by omega))
  have hm1 := allR_le fr bs
  have hrg := h.rng
  have hln := h.len
  have H := hide h
  obtain ⟨l, hl⟩ : ∃ l, l = allR fr bs := ⟨_, rfl⟩
  have HM : Hid (∀ j, j < l.length → fr ≤ l.getD j 0 ∧ l.getD j 0 - fr < bs.length) := fun j hj => by
    rw [List.getD_eq_getElem?_getD, List.getElem?_eq_getElem hj]
    exact allR_mem (by rw [← hl]; exact List.getElem_mem hj)
  rw [← hl] at HL hk hm1 ⊢
  clear h hl
  go_enter Tryd.func47, Tryd.ntmps47
  go_wp2_with fail
  refine (unhide HL).mono ?_
  rintro e w1 ⟨v, rfl, hrow, hb1⟩
  obtain ⟨al, cl, hvl⟩ := hrow.shape
  rw [iV_len] at hvl
  subst hvl
  obtain ⟨m, hm⟩ : ∃ m, m = l.length := ⟨_, rfl⟩
  rw [← hm] at hrow hk hm1 HM ⊢
  have HMM := hide hm
  have HLN := hide hln
  have HSL := hide (fun W => sliceI_h hrow k (by rw [iV_len, ← hm]; exact hk) W)
  clear hm hln HL
  have g1 : ¬ ((k : Int) < 0) := by omega
  have g2 : ¬ ((m : Int) < (k : Int)) := by omega
  have HROW := hide hrow
  clear hrow
  go_wp2_with fail
  go_loopw [7] (fun iv W => ∃ (j : Nat), j ≤ k ∧ iv = .int .i64 (j : Int) ∧ Rs W B g gb fr to_ (clrR fr bs (l.take j)) ∧ Row W w.heap.size 3 (.slice al m cl) (iV l) ∧ w.grownBy W (some gb)) (fun i _ => k - (intOf i).toNat)
  case atStart => exact ⟨0, by omega, rfl, (unhide H).below hb1, HROW.out, ⟨hb1.os, hb1.tape, hb1.output, hb1.size, fun k hk _ => hb1.block k hk⟩⟩
  case round =>
    obtain ⟨j, hjk, rfl, hrs, hrow, hgr⟩ := hrel
    by_cases hlt : j < k
    · obtain ⟨gl, cl2, hv, hc1, hc2, _, _⟩ := hrow.head (by rw [iV_len, ← HMM.out]; omega)
      injection hv with e1 e2 e3
      subst e1 e3
      obtain ⟨c, c0, _, c2, hLc, hcm, _, hr', _, h3⟩ := hrs.view
      obtain ⟨q, hq⟩ : ∃ q, q = l.getD j 0 := ⟨_, rfl⟩
      obtain ⟨q1, q2⟩ := unhide HM j (by omega)
      rw [← hq] at q1 q2
      have hcj : wr.cell? ⟨gl, j, none⟩ = some (.int .i64 (q : Int)) := by
        rw [hrow.cellAt (by rw [iV_len, ← HMM.out]; omega), hq]
        have : j < l.length := by rw [← HMM.out]; omega
        simp [iV, List.getElem?_map, List.getD_eq_getElem?_getD, List.getElem?_eq_getElem this]
      have hlq := clrR_len fr (l.take j) bs
      obtain ⟨a, ha⟩ : ∃ a, a = q - fr := ⟨_, rfl⟩
      have hca := h3 a (by omega)
      have hfa := hr'.frozenAt a
      have HP := hide (hrs.put (Below.refl _ _) a false)
      have HT : Hid (clrR fr bs (l.take (j + 1)) = (clrR fr bs (l.take j)).set a false) := by
        show _ = _
        unfold clrR
        have : j < l.length := by rw [← HMM.out]; omega
        rw [List.take_succ_eq_append_getElem this, List.foldl_append]
        show List.set _ _ _ = _
        rw [ha, hq, List.getD_eq_getElem?_getD, List.getElem?_eq_getElem this]
        rfl
      rw [hlq] at c2 hLc
      obtain ⟨L, hL⟩ : ∃ L, L = bs.length := ⟨_, rfl⟩
      rw [← hL] at c2 hLc q2
      have g3 : IntKind.i64.wrap ((q : Int) - (fr : Int)) = (q : Int) - (fr : Int) := by rw [IntKind.wrap_i64]; have := HLN.out; omega
      have g4 : ((q : Int) - (fr : Int)).toNat = a := by omega
      have g5 : (0 : Int) ≤ (q : Int) - (fr : Int) := by omega
      have g6 : (q : Int) - (fr : Int) < (L : Int) := by omega
      have HRW := hide hrow
      have HGR := hide hgr
      clear hq h3 hr' hrs hlq ha hL hrow hgr
      go_wp2_with fail
      go_region
      go_wp2
      obtain ⟨P1, P2⟩ := HP.out
      refine ⟨⟨j + 1, by omega, by go_num, by rw [HT.out]; exact P1, ?_, World.grownBy.trans HGR.out P2⟩, by simp [intOf]; omega⟩
      exact (HRW.out).kept P2 (Or.inr fun e => by have := ((HRW.out).lt _ e).1; omega)
    · have he : j = k := by omega
      have HE := hide he
      have hsl := unhide HSL wr
      clear he
      go_wp2
      go_ret2
      have HE' := HE.out
      subst HE'
      refine ⟨_, rfl, ?_, hrs, hgr⟩
      have := hrow.pre j (by rw [iV_len, ← HMM.out]; exact hk)
      unfold iV at this ⊢
      rw [List.map_take]
      exact this
end Go.Proofs.YtifmfnkpogconaaDoor
