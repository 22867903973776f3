/- List, TakeAll, Take. The free numbers as a list of those whose bit is set. -/
import Derived.Test.YtdafiobonhikiaaGreatDoorQT
namespace Go.Proofs.YtdafiobonhikiaaGreatDoor
open Go.RowKit

theorem freeN_allF (fr : Nat) (ws : List Nat) : (allF fr 0 ws).length = freeN ws := allF_len fr ws 0
theorem Sp.free_le {w : World} {B g gw fr to_ : Nat} {ws : List Nat} (h : Sp w B g gw fr to_ ws) : freeN ws ≤ 65536 := by
  have h1 := freeN_le ws
  have h2 := h.len
  have h3 := h.rng
  omega
set_option maxHeartbeats 1000000 in
theorem list_calls {w : World} {B g gw fr to_ : Nat} {ws : List Nat} (h : Sp w B g gw fr to_ ws) (hT : Tz w) :
    Calls Tryz.prog 12 #[.pointer (some ⟨g, 0, none⟩)] w fun e w' => ∃ v, e = .returned v ∧ Row w' w.heap.size 3 v (iV (allF fr 0 ws)) ∧ Below w.heap.size w w' := by
  have HF := hide (free_calls h)
  have HR := hide (first_calls h hT (freeN ws) h.free_le)
  rw [List.take_of_length_le (by rw [freeN_allF]; exact Nat.le_refl _)] at HR
  generalize freeN ws = k at *
  clear h hT
  go_enter Tryz.func12, Tryz.ntmps12
  go_wp2_with fail
  refine (unhide HF).mono ?_
  rintro e w1 ⟨rfl, hw1⟩
  obtain rfl := hw1.symm
  clear hw1
  go_wp2_with fail
  refine (unhide HR).mono ?_
  rintro e w1 ⟨v, rfl, hr, hb⟩
  go_wp2
  go_ret
  exact ⟨_, rfl, hr, hb⟩
/-- Each of these is claimed. -/
def claimAll (fr to_ : Nat) (ws : List Nat) (l : List Nat) : List Nat := l.foldl (fun (ws : List Nat) (n : Nat) => claimW fr to_ ws (n : Int)) ws
theorem claimAll_take {fr to_ : Nat} {ws l : List Nat} {k : Nat} (h : k < l.length) : claimAll fr to_ ws (l.take (k + 1)) = claimW fr to_ (claimAll fr to_ ws (l.take k)) ((l.getD k 0 : Nat) : Int) := by
  unfold claimAll
  rw [List.take_add_one, List.foldl_append, List.getElem?_eq_getElem h, List.getD_eq_getElem?_getD, List.getElem?_eq_getElem h]
  rfl
set_option maxRecDepth 100000 in
set_option maxHeartbeats 4000000 in
theorem takeAll_calls {w : World} {B g gw fr to_ : Nat} {ws : List Nat} (h : Sp w B g gw fr to_ ws) (hT : Tz w) (k : Nat) (hk : k ≤ freeN ws) :
    Calls Tryz.prog 54 #[.pointer (some ⟨g, 0, none⟩), .int .i64 (k : Int)] w fun e w' => ∃ v, e = .returned (.tuple #[v, .bool true]) ∧ Row w' w.heap.size 3 v (iV ((allF fr 0 ws).take k)) ∧ Sp w' B g gw fr to_ (claimAll fr to_ ws ((allF fr 0 ws).take k)) ∧ w.grownBy w' (some gw) := by
  have HF := hide (free_calls h)
  have hk2 := Nat.le_trans hk h.free_le
  have HR := hide (first_calls h hT k hk2)
  have hlen : ((allF fr 0 ws).take k).length = k := by rw [List.length_take, freeN_allF]; omega
  obtain ⟨l, hl⟩ : ∃ l, l = (allF fr 0 ws).take k := ⟨_, rfl⟩
  rw [← hl] at HR hlen ⊢
  have H := hide h
  have HLN := hide hlen
  have hgw : gw < w.heap.size := by
    obtain ⟨c, _, _, _, _, _, _, hr, _, _⟩ := h.view
    exact (hr.lt gw rfl).2
  have hfk : ((freeN ws : Nat) : Int) ≥ (k : Int) := by omega
  obtain ⟨f, hf⟩ : ∃ f, f = freeN ws := ⟨_, rfl⟩
  rw [← hf] at HF hk hfk
  clear h hT hl hlen hf
  go_enter Tryz.func54, Tryz.ntmps54
  go_wp2_with fail
  refine (unhide HF).mono ?_
  rintro e w1 ⟨rfl, hw1⟩
  obtain rfl := hw1.symm
  clear hw1
  go_wp2_with fail
  refine (unhide HR).mono ?_
  rintro e w1 ⟨v, rfl, hr1, hb1⟩
  obtain ⟨al, cl, hvl⟩ := hr1.shape
  rw [iV_len, HLN.out] at hvl
  subst hvl
  go_wp2_with fail
  go_loopw [22] (fun iv W => ∃ (i : Nat), i ≤ k ∧ iv = .int .i64 (i : Int) ∧ Sp W B g gw fr to_ (claimAll fr to_ ws (l.take i)) ∧ Row W w.heap.size 3 (.slice al k cl) (iV l) ∧ w.grownBy W (some gw)) (fun i _ => k - (intOf i).toNat)
  case atStart => exact ⟨0, by omega, rfl, (unhide H).below hb1, hr1, grown_of hb1 _⟩
  case round =>
    obtain ⟨i, hik, rfl, hs, hr, hg⟩ := hrel
    by_cases hlt : i < k
    · have hil : i < l.length := by rw [HLN.out]; exact hlt
      have hct := claimAll_take (fr := fr) (to_ := to_) (ws := ws) hil
      obtain ⟨gl, c3, hv3, h3c, h3m, _, hglw⟩ := hr.head (by rw [iV_len]; omega)
      injection hv3 with e1 e2 e3
      subst e1 e3
      rw [iV_len, HLN.out] at h3c
      have hcell : wr.cell? ⟨gl, i, none⟩ = some (.int .i64 ((l.getD i 0 : Nat) : Int)) := by
        rw [hr.cellAt (by rw [iV_len]; exact hil)]
        simp [iV, List.getElem?_map, List.getD_eq_getElem?_getD, List.getElem?_eq_getElem hil]
      obtain ⟨n, hn⟩ : ∃ n, n = l.getD i 0 := ⟨_, rfl⟩
      rw [← hn] at hcell hct
      have HCL := hide (claim_calls hs (n : Int))
      have HCT := hide hct
      have HR2 := hide hr
      have hgl : gl ≠ gw := by
        have := (hr.lt gl rfl).1
        omega
      clear hn hct hs hr e2
      go_wp2_with fail
      refine (unhide HCL).mono ?_
      rintro e w2 ⟨rfl, hs2, hg2⟩
      rw [← HCT.out] at hs2
      have hr2 := (unhide HR2).kept hg2 (Or.inr (by simpa [Value.ownBlock] using hgl))
      go_wp2
      go_roundw
      case rel => exact ⟨i + 1, by omega, by go_num, hs2, hr2, hg.trans hg2⟩
      case measure => simp [intOf]; omega
    · have hie : i = k := by omega
      have hs2 : Sp wr B g gw fr to_ (claimAll fr to_ ws l) := by
        rw [hie, ← HLN.out, List.take_length] at hs
        exact hs
      clear hie hs
      go_wp2
      go_ret2
      exact ⟨_, rfl, hr, hs2, hg⟩
set_option maxHeartbeats 1000000 in
theorem takeAll_no {w : World} {B g gw fr to_ : Nat} {ws : List Nat} (h : Sp w B g gw fr to_ ws) (n : Int) (hn : n < 0 ∨ ((freeN ws : Nat) : Int) < n) :
    Calls Tryz.prog 54 #[.pointer (some ⟨g, 0, none⟩), .int .i64 n] w fun e w' => e = .returned (.tuple #[.slice none 0 0, .bool false]) ∧ w' = w := by
  have HF := hide (free_calls h)
  clear h
  generalize freeN ws = f at *
  by_cases h1 : n < 0
  · go_enter Tryz.func54, Tryz.ntmps54
    go_wp2
    go_ret2
    exact ⟨rfl, rfl⟩
  · have h2 : (f : Int) < n := by omega
    clear hn
    go_enter Tryz.func54, Tryz.ntmps54
    go_wp2_with fail
    refine (unhide HF).mono ?_
    rintro e w1 ⟨rfl, hw1⟩
    obtain rfl := hw1.symm
    clear hw1
    go_wp2
    go_ret2
    exact ⟨rfl, rfl⟩
end Go.Proofs.YtdafiobonhikiaaGreatDoor

namespace Go.Proofs.YtdafiobonhikiaaGreatDoor
open Go.RowKit

theorem lst_filter (x : Nat) : ∀ n, lst x n = (List.range n).filter x.testBit
  | 0 => rfl
  | n + 1 => by
    simp only [lst]
    rw [lst_filter x n, List.range_succ, List.filter_append]
    congr 1
    by_cases h : x.testBit n = true <;> simp [h]
/-- The numbers below n whose bit is set, counted from the first one on. -/
def setB (ws : List Nat) (n : Nat) : List Nat := (List.range n).filter (bitAt ws)
theorem word_set (fr k : Nat) (ws : List Nat) (n : Nat) (hn : n ≤ 64) : ((lst (ws.getD k 0) n).map fun b => fr + k * 64 + b) = (((List.range n).map (64 * k + ·)).filter (bitAt ws)).map (fr + ·) := by
  rw [lst_filter, List.filter_map, List.map_map]
  have hf : (List.range n).filter (ws.getD k 0).testBit = (List.range n).filter (bitAt ws ∘ (64 * k + ·)) := by
    apply List.filter_congr
    intro b hb
    have hb := List.mem_range.1 hb
    simp only [Function.comp, bitAt]
    rw [show (64 * k + b) / 64 = k by omega, show (64 * k + b) % 64 = b by omega]
  rw [hf]
  apply List.map_congr_left
  intro b _
  simp only [Function.comp]
  omega
theorem setB_add (ws : List Nat) (m n : Nat) : setB ws (m + n) = setB ws m ++ ((List.range n).map (m + ·)).filter (bitAt ws) := by
  unfold setB
  rw [List.range_add, List.filter_append]
theorem wordF_set (fr k : Nat) (ws : List Nat) : wordF fr k (ws.getD k 0) = (((List.range 64).map (64 * k + ·)).filter (bitAt ws)).map (fr + ·) := word_set fr k ws 64 (Nat.le_refl _)
theorem allF_set (fr : Nat) (ws : List Nat) (k : Nat) : k ≤ ws.length → allF fr 0 (ws.take k) = (setB ws (64 * k)).map (fr + ·) := by
  induction k with
  | zero => intro _; simp [allF, setB]
  | succ k ih =>
    intro h
    rw [allF_take fr (by omega), ih (by omega), wordF_set, Nat.mul_add, Nat.mul_one, setB_add, List.map_append]
theorem setB_top {ws : List Nat} {m : Nat} (ht : ∀ i, m ≤ i → bitAt ws i = false) : ∀ n, m ≤ n → setB ws n = setB ws m := fun n hn => by
  obtain ⟨d, rfl⟩ : ∃ d, n = m + d := ⟨n - m, by omega⟩
  unfold setB
  rw [List.range_add, List.filter_append]
  have : ((List.range d).map (m + ·)).filter (bitAt ws) = [] := by
    rw [List.filter_eq_nil_iff]
    intro a ha
    obtain ⟨b, _, rfl⟩ := List.mem_map.1 ha
    rw [ht (m + b) (by omega)]
    simp
  rw [this, List.append_nil]
theorem Sp.all {w : World} {B g gw fr to_ : Nat} {ws : List Nat} (h : Sp w B g gw fr to_ ws) : allF fr 0 ws = (setB ws (to_ - fr)).map (fr + ·) := by
  have h1 := allF_set fr ws ws.length (Nat.le_refl _)
  rw [List.take_length] at h1
  rw [h1, setB_top h.top _ (by have := h.len; omega)]
theorem Sp.mem {w : World} {B g gw fr to_ : Nat} {ws : List Nat} (h : Sp w B g gw fr to_ ws) {n : Nat} (hn : n ∈ allF fr 0 ws) : hasB fr to_ ws (n : Int) = true ∧ fr ≤ n ∧ n < to_ := by
  rw [h.all] at hn
  obtain ⟨a, ha, rfl⟩ := List.mem_map.1 hn
  obtain ⟨h1, h2⟩ := List.mem_filter.1 ha
  have h1 := List.mem_range.1 h1
  refine ⟨?_, by omega, by omega⟩
  unfold hasB
  rw [decide_eq_true (by omega), show (((fr + a : Nat) : Int) - (fr : Int)).toNat = a by omega, h2]
  rfl
end Go.Proofs.YtdafiobonhikiaaGreatDoor
