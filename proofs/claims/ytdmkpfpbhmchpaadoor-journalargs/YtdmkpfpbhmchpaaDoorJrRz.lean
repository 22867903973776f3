/- The document's disk of zeros: Read, Replay. -/
import Derived.Test.YtdmkpfpbhmchpaaDoorJrAr
import Derived.Test.YtdmkpfpbhmchpaaDoorJrTo
namespace Go.Proofs.YtdmkpfpbhmchpaaDoor
open Go.RowKit Go.Maps

/-- The document's disk of n sectors of zeros, none of them written. -/
def RZ (W : World) (p n : Nat) : Prop := ∃ (a b c d : Nat) (rest : List Value), Arr W p 105 (.slice (some ⟨a, 0, none⟩) n c :: .slice (some ⟨b, 0, none⟩) n d :: rest) ∧ (n ≤ c ∧ c ≤ 9223372036854775807) ∧ (n ≤ d ∧ d ≤ 9223372036854775807) ∧ (∀ i, i < n → W.cell? ⟨b, i, none⟩ = some (.slice none 0 0)) ∧ ∀ i, i < n → ∃ v, W.cell? ⟨a, i, none⟩ = some v ∧ IsB W v zsec
theorem RZ.below {W W2 : World} {p n : Nat} (h : RZ W p n) (hb : Below W.heap.size W W2) : RZ W2 p n := by
  obtain ⟨a, b, c, d, rest, h1, h2, h3, h4, h5⟩ := h
  refine ⟨a, b, c, d, rest, h1.below hb, h2, h3, fun i hi => (hb.cell (p := ⟨b, i, none⟩) (World.block_lt_of_cell? W _ (h4 i hi))).trans (h4 i hi), fun i hi => ?_⟩
  obtain ⟨v, q1, q2⟩ := h5 i hi
  exact ⟨v, (hb.cell (p := ⟨a, i, none⟩) (World.block_lt_of_cell? W _ q1)).trans q1, q2.below hb⟩
theorem rread17_calls {W : World} {p n i : Nat} (h : RZ W p n) (hi : i < n) : Calls Tryd.prog 51 #[.pointer (some ⟨p, 0, none⟩), .int .i64 (i : Int)] W fun e w' => ∃ v, e = .returned v ∧ IsB W v zsec ∧ w' = W := by
  obtain ⟨a, b, c, d, rest, h1, h2, h3, h4, h5⟩ := h
  have c0 : W.cell? ⟨p, 0, none⟩ = some (.slice (some ⟨a, 0, none⟩) n c) := h1.cell 0
  have c1 : W.cell? ⟨p, 1, none⟩ = some (.slice (some ⟨b, 0, none⟩) n d) := h1.cell 1
  have c2 := h4 i hi
  obtain ⟨v, c3, hv⟩ := h5 i hi
  obtain ⟨va, vn, vc, rfl⟩ := hv.shape
  have hiI : (i : Int) < (n : Int) := by omega
  have HV := hide hv
  clear h1 h4 h5 hv
  go_enter Tryd.func51, Tryd.ntmps51
  go_wp2
  go_ret
  exact ⟨_, rfl, HV.out, rfl⟩
set_option maxRecDepth 100000 in
set_option maxHeartbeats 2000000 in
theorem rreplay_zero {W : World} {p L fr n st : Nat} (h : RZ W p L) (hn1 : 1 ≤ n) (hn : n ≤ 1024) (hfr : fr + n ≤ L) (hL : L ≤ 65536) (hst : st ≤ 1099511627777) :
    Calls Tryd.prog 25 #[.pointer (some ⟨p, 0, none⟩), .int .i64 (fr : Int), .int .i64 (n : Int), .int .i64 (st : Int)] W fun e w' => e = .returned (.tuple #[.slice none 0 0, .int .i64 0]) ∧ Below W.heap.size W w' := by
  have HZ := hide h
  have hmod := Nat.mod_lt st (show 0 < n by omega)
  obtain ⟨i, hi⟩ : ∃ i, i = fr + st % n := ⟨_, rfl⟩
  have hiL : i < L := by omega
  have HRD := hide (rread17_calls h hiL)
  have HDZ : Hid (∀ W x, IsB W x zsec → Calls Tryd.prog 19 #[x] W fun e w' => ∃ u, e = .returned (.tuple #[.agg (jrV .nul u).toArray, .bool false]) ∧ OwnJ w' W.heap.size u JR.nul.rs ∧ Below W.heap.size W w') := hide (fun W x hx => by have := rdec_calls hx; rw [decZ.1, zsec_none] at this; exact this)
  obtain ⟨a, b, c, d, rest, h1, h2, h3, h4, h5⟩ := h
  have c0 : W.cell? ⟨p, 0, none⟩ = some (.slice (some ⟨a, 0, none⟩) L c) := h1.cell 0
  have d1 : decide ((fr : Int) < 0) = false := by simp
  have d2 : decide ((n : Int) < 1) = false := by simp; omega
  have d3 : decide (1024 < (n : Int)) = false := by simp; omega
  have hsub : IntKind.i64.wrap ((L : Int) - (n : Int)) = (L : Int) - (n : Int) := IntWalk.i64_in _ (by omega)
  have d4 : decide ((L : Int) - (n : Int) < (fr : Int)) = false := by simp; omega
  have d5 : decide ((st : Int) < 0) = false := by simp
  have d6 : decide (1099511627777 < (st : Int)) = false := by simp; omega
  have hn0 : decide ((0 : Int) < (n : Int)) = true := by simp; omega
  have hnz : ¬ (n : Int) = 0 := by omega
  have hw1 : IntKind.i64.wrap ((st : Int) + 0) = (st : Int) := by rw [Int.add_zero]; exact IntWalk.i64_in _ (by omega)
  have hw2 : IntKind.i64.wrap ((st : Int).tmod (n : Int)) = ((st % n : Nat) : Int) := by rw [Int.tmod_eq_emod_of_nonneg (by omega), IntWalk.i64_in _ (by omega)]; omega
  have hw4 : (st : Int).tmod (n : Int) = ((st % n : Nat) : Int) := by rw [Int.tmod_eq_emod_of_nonneg (by omega)]; omega
  have hw3 : IntKind.i64.wrap ((fr : Int) + ((st % n : Nat) : Int)) = (i : Int) := by rw [IntWalk.i64_in _ (by omega)]; omega
  generalize st % n = sn at *
  clear h1 h2 h3 h4 h5 hi
  go_enter Tryd.func25, Tryd.ntmps25
  go_wp2_with fail
  go_loopw [10] (fun v W' => v = .slice none 0 0 ∧ Hid (W' = W)) (fun _ _ => 0)
  case atStart => exact ⟨rfl, hide rfl⟩
  case round =>
    obtain ⟨rfl, HW⟩ := hrel
    obtain rfl := HW.out
    go_wp2_with fail
    refine (unhide HRD).mono ?_
    rintro e w1 ⟨v, rfl, hv, hw1⟩
    obtain rfl := hw1.symm
    obtain ⟨va, vn, vc, rfl⟩ := hv.shape
    have HV := hide hv
    clear hv hw1 HRD HW
    go_wp2_with fail
    refine (unhide HDZ _ _ HV.out).mono ?_
    rintro e w2 ⟨u, rfl, ho, hb⟩
    obtain ⟨ua, uc, hus⟩ := ho.shape
    subst hus
    have hA := Arr.new w2 z34R 26
    have hba := jalloc_below w2 (.cells z34R.toArray 26)
    have hinf := fun u => infoRof (r := JR.nul) nul_len u
    have hlen := fun u => (show z34R.length = (jrV JR.nul u).length by rw [jrV_len nul_len]; decide)
    have HST : Hid (∀ X, (w2.alloc (.cells z34R.toArray 26)).grownBy X (some w2.heap.size) → Below wr.heap.size wr X) := hide (fun X hg => below_then hb (jbelow_grown hba hg hba.size (Nat.le_refl _)))
    clear ho hb hba
    go_wp2_with (first
      | (refine wpList_allocJ rfl 26 rfl infoR ?_)
      | (refine wpList_storeJ rfl (.tmp 12) (.tmp 64) 26 rfl rfl rfl hA (hinf _) (hlen _) (jrV_one .nul rfl) ?_; intro w3 hB hg
         have HB3 := hide (unhide HST w3 hg)
         clear hB hg HST hA)
      | fail)
    go_ret2
    exact ⟨rfl, HB3.out⟩
set_option maxRecDepth 100000 in
set_option maxHeartbeats 2000000 in
theorem rreplay_bad {W : World} {p L : Nat} {x0 x1 x2 : Int} (h : RZ W p L) (hla : L ≤ 65536) (hbad : ¬ okA L x0 x1 x2) :
    Calls Tryd.prog 25 #[.pointer (some ⟨p, 0, none⟩), .int .i64 x0, .int .i64 x1, .int .i64 x2] W fun e w' => e = .returned (.tuple #[.slice none 0 0, .int .i64 1]) ∧ w' = W := by
  obtain ⟨a, b, c, d, rest, h1, h2, h3, h4, h5⟩ := h
  have c0 : W.cell? ⟨p, 0, none⟩ = some (.slice (some ⟨a, 0, none⟩) L c) := h1.cell 0
  clear h1 h2 h3 h4 h5
  unfold okA at hbad
  by_cases c1 : x0 < 0
  · have d1 : decide (x0 < 0) = true := decide_eq_true c1
    clear hbad
    go_enter Tryd.func25, Tryd.ntmps25
    go_wp2
    go_ret2
    exact ⟨rfl, rfl⟩
  by_cases c2 : x1 < 1
  · have d1 : decide (x0 < 0) = false := decide_eq_false c1
    have d2 : decide (x1 < 1) = true := decide_eq_true c2
    clear hbad
    go_enter Tryd.func25, Tryd.ntmps25
    go_wp2
    go_ret2
    exact ⟨rfl, rfl⟩
  by_cases c3 : 1024 < x1
  · have d1 : decide (x0 < 0) = false := decide_eq_false c1
    have d2 : decide (x1 < 1) = false := decide_eq_false c2
    have d3 : decide (1024 < x1) = true := decide_eq_true c3
    clear hbad
    go_enter Tryd.func25, Tryd.ntmps25
    go_wp2
    go_ret2
    exact ⟨rfl, rfl⟩
  by_cases c4 : (L : Int) - x1 < x0
  · have hsub : IntKind.i64.wrap ((L : Int) - x1) = (L : Int) - x1 := IntWalk.i64_in _ (by omega)
    have d1 : decide (x0 < 0) = false := decide_eq_false c1
    have d2 : decide (x1 < 1) = false := decide_eq_false c2
    have d3 : decide (1024 < x1) = false := decide_eq_false c3
    have d4 : decide ((L : Int) - x1 < x0) = true := decide_eq_true c4
    clear hbad
    go_enter Tryd.func25, Tryd.ntmps25
    go_wp2
    go_ret2
    exact ⟨rfl, rfl⟩
  by_cases c5 : x2 < 0
  · have hsub : IntKind.i64.wrap ((L : Int) - x1) = (L : Int) - x1 := IntWalk.i64_in _ (by omega)
    have d1 : decide (x0 < 0) = false := decide_eq_false c1
    have d2 : decide (x1 < 1) = false := decide_eq_false c2
    have d3 : decide (1024 < x1) = false := decide_eq_false c3
    have d4 : decide ((L : Int) - x1 < x0) = false := decide_eq_false c4
    have d5 : decide (x2 < 0) = true := decide_eq_true c5
    clear hbad
    go_enter Tryd.func25, Tryd.ntmps25
    go_wp2
    go_ret2
    exact ⟨rfl, rfl⟩
  have c6 : 1099511627777 < x2 := by omega
  have hsub : IntKind.i64.wrap ((L : Int) - x1) = (L : Int) - x1 := IntWalk.i64_in _ (by omega)
  have d1 : decide (x0 < 0) = false := decide_eq_false c1
  have d2 : decide (x1 < 1) = false := decide_eq_false c2
  have d3 : decide (1024 < x1) = false := decide_eq_false c3
  have d4 : decide ((L : Int) - x1 < x0) = false := decide_eq_false c4
  have d5 : decide (x2 < 0) = false := decide_eq_false c5
  have d6 : decide (1099511627777 < x2) = true := decide_eq_true c6
  clear hbad
  go_enter Tryd.func25, Tryd.ntmps25
  go_wp2
  go_ret2
  exact ⟨rfl, rfl⟩
end Go.Proofs.YtdmkpfpbhmchpaaDoor
