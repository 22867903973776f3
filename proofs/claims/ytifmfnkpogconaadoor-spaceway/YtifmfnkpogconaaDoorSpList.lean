/- The free numbers as a list of those whose bit is set. -/
import Derived.Test.YtifmfnkpogconaaDoorSpTake
namespace Go.Proofs.YtifmfnkpogconaaDoor
open Go.RowKit

theorem lst_filter (x : Nat) : ∀ n, lst x n = (List.range n).filter x.testBit
  | 0 => rfl
  | n + 1 => by
    simp only [lst]
    rw [lst_filter x n, List.range_succ, List.filter_append]
    congr 1
    by_cases h : x.testBit n = true <;> simp [h]
/-- The numbers below n whose bit is set, counted from the first one on. -/
def setB (ws : List Nat) (n : Nat) : List Nat := (List.range n).filter (bitAt ws)
theorem word_set (fr k : Nat) (ws : List Nat) (n : Nat) (hn : n ≤ 64) : ((lst (ws.getD k 0) n).map fun b => fr + k * 64 + b) = (((List.range n).map (64 * k + ·)).filter (bitAt ws)).map (fr + ·) := by
  rw [lst_filter, List.filter_map, List.map_map]
  have hf : (List.range n).filter (ws.getD k 0).testBit = (List.range n).filter (bitAt ws ∘ (64 * k + ·)) := by
    apply List.filter_congr
    intro b hb
    have hb := List.mem_range.1 hb
    simp only [Function.comp, bitAt]
    rw [show (64 * k + b) / 64 = k by omega, show (64 * k + b) % 64 = b by omega]
  rw [hf]
  apply List.map_congr_left
  intro b _
  simp only [Function.comp]
  omega
theorem setB_add (ws : List Nat) (m n : Nat) : setB ws (m + n) = setB ws m ++ ((List.range n).map (m + ·)).filter (bitAt ws) := by
  unfold setB
  rw [List.range_add, List.filter_append]
theorem wordF_set (fr k : Nat) (ws : List Nat) : wordF fr k (ws.getD k 0) = (((List.range 64).map (64 * k + ·)).filter (bitAt ws)).map (fr + ·) := word_set fr k ws 64 (Nat.le_refl _)
theorem allF_set (fr : Nat) (ws : List Nat) (k : Nat) : k ≤ ws.length → allF fr 0 (ws.take k) = (setB ws (64 * k)).map (fr + ·) := by
  induction k with
  | zero => intro _; simp [allF, setB]
  | succ k ih =>
    intro h
    rw [allF_take fr (by omega), ih (by omega), wordF_set, Nat.mul_add, Nat.mul_one, setB_add, List.map_append]
theorem setB_top {ws : List Nat} {m : Nat} (ht : ∀ i, m ≤ i → bitAt ws i = false) : ∀ n, m ≤ n → setB ws n = setB ws m := fun n hn => by
  obtain ⟨d, rfl⟩ : ∃ d, n = m + d := ⟨n - m, by omega⟩
  unfold setB
  rw [List.range_add, List.filter_append]
  have : ((List.range d).map (m + ·)).filter (bitAt ws) = [] := by
    rw [List.filter_eq_nil_iff]
    intro a ha
    obtain ⟨b, _, rfl⟩ := List.mem_map.1 ha
    rw [ht (m + b) (by omega)]
    simp
  rw [this, List.append_nil]
theorem Sp.all {w : World} {B g gw fr to_ : Nat} {ws : List Nat} (h : Sp w B g gw fr to_ ws) : allF fr 0 ws = (setB ws (to_ - fr)).map (fr + ·) := by
  have h1 := allF_set fr ws ws.length (Nat.le_refl _)
  rw [List.take_length] at h1
  rw [h1, setB_top h.top _ (by have := h.len; omega)]
theorem Sp.mem {w : World} {B g gw fr to_ : Nat} {ws : List Nat} (h : Sp w B g gw fr to_ ws) {n : Nat} (hn : n ∈ allF fr 0 ws) : hasB fr to_ ws (n : Int) = true ∧ fr ≤ n ∧ n < to_ := by
  rw [h.all] at hn
  obtain ⟨a, ha, rfl⟩ := List.mem_map.1 hn
  obtain ⟨h1, h2⟩ := List.mem_filter.1 ha
  have h1 := List.mem_range.1 h1
  refine ⟨?_, by omega, by omega⟩
  unfold hasB
  rw [decide_eq_true (by omega), show (((fr + a : Nat) : Int) - (fr : Int)).toNat = a by omega, h2]
  rfl
set_option maxRecDepth 100000 in
set_option maxHeartbeats 4000000 in
theorem take_calls {w : World} {B g gw fr to_ : Nat} {ws : List Nat} (h : Sp w B g gw fr to_ ws) (hT : Tz w) :
    Calls Tryd.prog 18 #[.pointer (some ⟨g, 0, none⟩)] w fun e w' => (allF fr 0 ws = [] ∧ e = .returned (.tuple #[.int .i64 0, .bool false]) ∧ w' = w) ∨ (∃ n t, allF fr 0 ws = n :: t ∧ e = .returned (.tuple #[.int .i64 (n : Int), .bool true]) ∧ Sp w' B g gw fr to_ (claimW fr to_ ws (n : Int)) ∧ w.grownBy w' (some gw)) := by
  obtain ⟨c, _, _, c2, hLc, hcm, _, _, _, hcells⟩ := h.view
  have HC := hide hcells
  have HWD : Hid (∀ i, i < ws.length → ws.getD i 0 < 18446744073709551616) := fun i hi => by
    rw [List.getD_eq_getElem?_getD, List.getElem?_eq_getElem hi]
    exact h.wd _ (List.getElem_mem hi)
  have hLb : ws.length ≤ 1024 := by have := h.len; have := h.rng; omega
  obtain ⟨L, hL⟩ : ∃ L, L = ws.length := ⟨_, rfl⟩
  rw [← hL] at c2 hLc HC HWD hLb
  have HL := hide hL
  have H := hide h
  have HT := hide hT
  have HLW : Hid (∀ i x, i ≤ 1024 → x ≠ 0 → x < 18446744073709551616 → Calls Tryd.prog 40 #[.pointer (some ⟨g, 0, none⟩), .int .i64 ((i : Nat) : Int), .int .u64 ((x : Nat) : Int)] w fun e w' => e = .returned (.int .i64 ((fr + i * 64 + Lib.ctz 64 x : Nat) : Int)) ∧ Below w.heap.size w w') := fun i x h1 h2 h3 => by
    obtain ⟨_, _, hc⟩ := ctz_spec h2 h3
    exact lowest_calls h hT i x h1 h2 h3 hc
  clear h hT hcells hL
  go_enter Tryd.func18, Tryd.ntmps18
  go_wp2_with fail
  go_loop [12] (fun iv => ∃ (i : Nat), i ≤ L ∧ iv = .int .i64 (i : Int) ∧ Hid (allF fr 0 (ws.take i) = [])) (fun i => L - (intOf i).toNat)
  case atStart => exact ⟨0, by omega, rfl, by show _ = _; rfl⟩
  case round =>
    obtain ⟨i, hiL, rfl, HA⟩ := hrel
    by_cases hlt : i < L
    · have hci := unhide HC i hlt
      have hwi := unhide HWD i hlt
      have hat := allF_take fr (ws := ws) (k := i) (by rw [← HL.out]; exact hlt)
      obtain ⟨x, hx⟩ : ∃ x, x = ws.getD i 0 := ⟨_, rfl⟩
      rw [← hx] at hci hwi hat
      rw [HA.out, List.nil_append] at hat
      have HAT := hide hat
      clear hx hat
      by_cases hx0 : x = 0
      · have hyb : ((x : Int) != 0) = false := by rw [hx0]; rfl
        have HA2 : Hid (allF fr 0 (ws.take (i + 1)) = []) := by
          show _ = _
          rw [HAT.out, hx0, wordF_zero]
        clear hx0
        go_wp2
        go_roundw
        case rel => exact ⟨i + 1, by omega, by go_num, HA2⟩
        case measure => simp [intOf]; omega
      · have hyb : ((x : Int) != 0) = true := by simpa using hx0
        have HLC := hide (unhide HLW i x (by omega) hx0 hwi)
        obtain ⟨hlow, _⟩ := low_bits hx0 hwi
        obtain ⟨q, hq⟩ : ∃ q, q = fr + i * 64 + Lib.ctz 64 x := ⟨_, rfl⟩
        rw [← hq] at HLC
        have HALL : Hid (∃ t, allF fr 0 ws = q :: t) := by
          have e := List.take_append_drop (i + 1) ws
          have e2 : allF fr 0 ws = allF fr 0 (ws.take (i + 1)) ++ allF fr (0 + (ws.take (i + 1)).length) (ws.drop (i + 1)) := by rw [← allF_append, e]
          refine ⟨((lst (x &&& (x - 1)) 64).map fun b => fr + i * 64 + b) ++ allF fr (0 + (ws.take (i + 1)).length) (ws.drop (i + 1)), ?_⟩
          rw [e2, HAT.out]
          unfold wordF
          rw [hlow, List.map_cons, ← hq, List.cons_append]
        have HHS : Hid (hasB fr to_ ws (q : Int) = true) := by
          obtain ⟨t, ht⟩ := HALL.out
          exact ((unhide H).mem (by rw [ht]; simp)).1
        clear hq hlow hx0
        go_wp2_with fail
        refine (unhide HLC).mono ?_
        rintro e w1 ⟨rfl, hb1⟩
        have HCL := hide (claim_calls ((unhide H).below hb1) (q : Int))
        rw [HHS.out] at HCL
        go_wp2_with fail
        refine (unhide HCL).mono ?_
        rintro e w2 ⟨rfl, hs2, hg2⟩
        go_wp2
        go_ret2
        obtain ⟨t, ht⟩ := HALL.out
        exact Or.inr ⟨q, t, ht, rfl, hs2, (grown_of hb1 _).trans hg2⟩
    · have HAE : Hid (allF fr 0 ws = []) := by
        show _ = _
        have := HA.out
        rw [show i = L by omega, HL.out, List.take_length] at this
        exact this
      go_wp2
      go_ret2
      exact Or.inl ⟨HAE.out, rfl, rfl⟩
end Go.Proofs.YtifmfnkpogconaaDoor
