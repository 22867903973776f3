/- lists: TakeAll. -/
import Derived.Test.YtifmfnkpogconaaDoorLists4
namespace Go.Proofs.YtifmfnkpogconaaDoor
open Go.RowKit

set_option maxRecDepth 100000 in
set_option maxHeartbeats 4000000 in
theorem lists_take {w : World} {B gW m t n i : Nat} {P : Nat → Pr} {U : Nat → Value} {X : Nat → List Nat} (h : Wd w B gW m P t n U X) (htw : Tws m P) (hT : Tz w) (hi : i < m) (ht : t ≤ 1000) (K O N : Int) (k : Nat) (hk : k ≤ freeN (P i).ws) (hK : (K = 9 ∧ k = freeN (P i).ws) ∨ (K ≠ 9 ∧ K ≠ 7 ∧ N = (k : Int))) :
    Calls Tryd.prog 32 #[.pointer (some ⟨gW, 0, none⟩), .agg #[.int .i64 K, .int .i64 O, .int .i64 N], .pointer (some ⟨(P i).g, 0, none⟩), .pointer (some ⟨(P i).g2, 0, none⟩)] w fun e w' => e = .returned (.bool true) ∧ Left w w' B gW m t := by
  have hb0 := alloc_below w (.cells #[.int .i64 K, .int .i64 O, .int .i64 N] 39)
  obtain ⟨W0, hW0⟩ : ∃ W0, W0 = w.alloc (.cells #[.int .i64 K, .int .i64 O, .int .i64 N] 39) := ⟨_, rfl⟩
  rw [← hW0] at hb0
  have h0 := h.below hb0
  have hall := (htw i hi).all (h0.pr hi).sp
  have H0 := hide (free_calls (h0.pr hi).sp)
  have H1 : Hid (Calls Tryd.prog 19 #[.pointer (some ⟨(P i).g, 0, none⟩), .int .i64 (k : Int)] W0 fun e w1 => ∃ v, e = .returned (.tuple #[v, .bool true]) ∧ Hid (Row w1 W0.heap.size 3 v (iV ((allF (P i).fr 0 (P i).ws).take k)) ∧ Wd w1 B gW m (upd P i ((P i).setW (claimAll (P i).fr (P i).to_ (P i).ws ((allF (P i).fr 0 (P i).ws).take k)))) t n U X ∧ Ch B T4 w w1)) := (takeAll_calls (h0.pr hi).sp (hT.below hb0) k hk).mono fun e w1 ⟨v, e1, e2, e3, e4⟩ => by
    obtain ⟨q1, q2⟩ := h0.words hi e4 e3
    exact ⟨v, e1, e2, q1, (Ch.of_below hb0).trans (q2.mono (Nat.le_refl _) fun t => T4U)⟩
  have HH : Hid (∀ w1 v, Hid (Row w1 W0.heap.size 3 v (iV ((allF (P i).fr 0 (P i).ws).take k)) ∧ Wd w1 B gW m (upd P i ((P i).setW (claimAll (P i).fr (P i).to_ (P i).ws ((allF (P i).fr 0 (P i).ws).take k)))) t n U X ∧ Ch B T4 w w1) →
      Calls Tryd.prog 48 #[.pointer (some ⟨gW, 2, none⟩), v] w1 fun e w2 => (∃ r, e = .returned r) ∧ Hid (Row w2 W0.heap.size 3 v (iV ((allF (P i).fr 0 (P i).ws).take k)) ∧ (∃ n' U' X', Wd w2 B gW m (upd P i ((P i).setW (claimAll (P i).fr (P i).to_ (P i).ws ((allF (P i).fr 0 (P i).ws).take k)))) (t + 1) n' U' X') ∧ Ch B T4 w w2)) := fun w1 v hq => by
    obtain ⟨hv, h1, hc1⟩ := hq.out
    refine (keep_calls h1 hv (by have := h.low.2.1; have := hb0.size; omega) ((h0.pr hi).sp.listLen k) ht (ap_new h0.lines (Nat.le_refl _) hv)).mono ?_
    rintro e w2 ⟨hr, ⟨n', U', X', hw⟩, hc⟩
    exact ⟨hr, hv.ch hc (by unfold TK; decide), ⟨n', U', X', hw⟩, hc1.trans (hc.mono (Nat.le_refl _) fun t => T4K)⟩
  have HR : Hid (∀ w2 v, Hid (Row w2 W0.heap.size 3 v (iV ((allF (P i).fr 0 (P i).ws).take k)) ∧ (∃ n' U' X', Wd w2 B gW m (upd P i ((P i).setW (claimAll (P i).fr (P i).to_ (P i).ws ((allF (P i).fr 0 (P i).ws).take k)))) (t + 1) n' U' X') ∧ Ch B T4 w w2) →
      Calls Tryd.prog 47 #[.pointer (some ⟨(P i).g2, 0, none⟩), .int .i64 (k : Int)] w2 fun e w3 => ∃ v3, e = .returned (.tuple #[v3, .bool true]) ∧ Hid (Row w3 W0.heap.size 3 v (iV ((allF (P i).fr 0 (P i).ws).take k)) ∧ Row w3 w2.heap.size 3 v3 (iV ((allF (P i).fr 0 (P i).ws).take k)) ∧ Left w w3 B gW m t)) := fun w2 v hq => by
    obtain ⟨hv, ⟨n', U', X', hw⟩, hc2⟩ := hq.out
    have hr2 := (hw.pr hi).rs
    rw [upd_same] at hr2
    refine (rtakeAll_calls (fr := (P i).fr) (to_ := (P i).to_) (bs := (P i).bs) (gb := (P i).gb) hr2 k (by rw [hall, freeN_allF]; exact hk)).mono ?_
    rintro e w3 ⟨v3, e1, e2, e3, e4⟩
    obtain ⟨q1, q2⟩ := hw.bits hi (by rw [upd_same]; exact e4) (by rw [upd_same]; exact e3)
    refine ⟨v3, e1, hv.ch q2 (by decide), by rw [← hall]; exact e2, ⟨_, n', U', X', q1, ?_⟩, hc2.trans (q2.mono (Nat.le_refl _) fun t => T4B)⟩
    exact htw.upd ((htw i hi).takeAll (h0.pr hi).sp k)
  clear h0 hall htw h hT hb0
  rcases hK with ⟨rfl, hk9⟩ | ⟨hK9, hK7, rfl⟩
  · rw [← hk9] at H0
    clear hk9 hk
    rw [hW0] at H0 H1
    go_enter Tryd.func32, Tryd.ntmps32
    go_wp2_with fail
    refine (unhide H0).mono ?_
    rintro e w0 ⟨rfl, hw0⟩
    obtain rfl := hw0.symm
    clear hw0
    go_wp2_with fail
    refine (unhide H1).mono ?_
    rintro e w1 ⟨v, rfl, HV⟩
    rw [← hW0] at HV
    go_wp2_with fail
    refine (unhide HH w1 v HV).mono ?_
    rintro e w2 ⟨⟨r, rfl⟩, HF⟩
    go_wp2_with fail
    refine (unhide HR w2 v HF).mono ?_
    rintro e w3 ⟨v3, rfl, HG⟩
    have HS := hide (same_calls (HG.out).1 (HG.out).2.1)
    go_wp2_with fail
    refine (unhide HS).mono ?_
    rintro e w4 ⟨rfl, hb4⟩
    go_wp2
    go_ret
    obtain ⟨_, _, ⟨P', n', U', X', hw, htw⟩, hc⟩ := HG.out
    exact ⟨rfl, ⟨P', n', U', X', hw.below hb4, htw⟩, hc.trans (Ch.of_below hb4)⟩
  · clear hk H0
    rw [hW0] at H1
    have hb9 : (K == 9) = false := by simpa using hK9
    have hb7 : (K == 7) = false := by simpa using hK7
    clear hK9 hK7
    go_enter Tryd.func32, Tryd.ntmps32
    go_wp2_with fail
    refine (unhide H1).mono ?_
    rintro e w1 ⟨v, rfl, HV⟩
    rw [← hW0] at HV
    go_wp2_with fail
    refine (unhide HH w1 v HV).mono ?_
    rintro e w2 ⟨⟨r, rfl⟩, HF⟩
    go_wp2_with fail
    refine (unhide HR w2 v HF).mono ?_
    rintro e w3 ⟨v3, rfl, HG⟩
    have HS := hide (same_calls (HG.out).1 (HG.out).2.1)
    go_wp2_with fail
    refine (unhide HS).mono ?_
    rintro e w4 ⟨rfl, hb4⟩
    go_wp2
    go_ret
    obtain ⟨_, _, ⟨P', n', U', X', hw, htw⟩, hc⟩ := HG.out
    exact ⟨rfl, ⟨P', n', U', X', hw.below hb4, htw⟩, hc.trans (Ch.of_below hb4)⟩
set_option maxRecDepth 100000 in
set_option maxHeartbeats 4000000 in
theorem lists_no {w : World} {B gW m t n i : Nat} {P : Nat → Pr} {U : Nat → Value} {X : Nat → List Nat} (h : Wd w B gW m P t n U X) (htw : Tws m P) (hi : i < m) (ht : t ≤ 1000) (K O N : Int) (hK9 : K ≠ 9) (hK7 : K ≠ 7) (hN : N < 0 ∨ ((freeN (P i).ws : Nat) : Int) < N) :
    Calls Tryd.prog 32 #[.pointer (some ⟨gW, 0, none⟩), .agg #[.int .i64 K, .int .i64 O, .int .i64 N], .pointer (some ⟨(P i).g, 0, none⟩), .pointer (some ⟨(P i).g2, 0, none⟩)] w fun e w' => e = .returned (.bool true) ∧ Left w w' B gW m t := by
  have hb0 := alloc_below w (.cells #[.int .i64 K, .int .i64 O, .int .i64 N] 39)
  have h0 := h.below hb0
  have hall := (htw i hi).all (h0.pr hi).sp
  have H1 := hide (takeAll_no (h0.pr hi).sp N hN)
  have HK : Hid (Calls Tryd.prog 48 #[.pointer (some ⟨gW, 2, none⟩), .slice none 0 0] (w.alloc (.cells #[.int .i64 K, .int .i64 O, .int .i64 N] 39)) fun e w2 => (∃ r, e = .returned r) ∧ Hid ((∃ n' U' X', Wd w2 B gW m P (t + 1) n' U' X') ∧ Ch B T4 w w2 ∧ Rs w2 B (P i).g2 (P i).gb (P i).fr (P i).to_ (P i).bs)) := by
    refine (keep_calls (l := []) h0 (Row.nil _ B _) (Nat.le_refl _) (by simp) ht (fun k hk => Ap.symm (Or.inl rfl))).mono ?_
    rintro e w2 ⟨hr, ⟨n', U', X', hw⟩, hc⟩
    exact ⟨hr, ⟨n', U', X', hw⟩, (Ch.of_below hb0).trans (hc.mono (Nat.le_refl _) fun t => T4K), (hw.pr hi).rs⟩
  have HN : Hid (N < 0 ∨ ((allR (P i).fr (P i).bs).length : Int) < N) := by
    show _ ∨ _
    rw [hall, freeN_allF]; exact hN
  have HTW := hide htw
  have hb9 : (K == 9) = false := by simpa using hK9
  have hb7 : (K == 7) = false := by simpa using hK7
  clear h0 hall htw h hb0 hK9 hK7 hN
  go_enter Tryd.func32, Tryd.ntmps32
  go_wp2_with fail
  refine (unhide H1).mono ?_
  rintro e w1 ⟨rfl, hw1⟩
  obtain rfl := hw1.symm
  clear hw1
  go_wp2_with fail
  refine (unhide HK).mono ?_
  rintro e w2 ⟨⟨r, rfl⟩, HF⟩
  go_wp2_with fail
  refine (rtakeAll_no (HF.out).2.2 N HN.out).mono ?_
  rintro e w3 ⟨rfl, hb3⟩
  have HS := hide (same_calls (xs := []) (Row.nil w3 0 3) (Row.nil w3 0 3))
  have HB3 := hide hb3
  clear hb3
  go_wp2_with fail
  refine (unhide HS).mono ?_
  rintro e w4 ⟨rfl, hb4⟩
  go_wp2
  go_ret
  obtain ⟨⟨n', U', X', hw⟩, hc, _⟩ := HF.out
  exact ⟨rfl, ⟨P, n', U', X', (hw.below HB3.out).below hb4, HTW.out⟩, (hc.trans (Ch.of_below HB3.out)).trans (Ch.of_below hb4)⟩
end Go.Proofs.YtifmfnkpogconaaDoor
