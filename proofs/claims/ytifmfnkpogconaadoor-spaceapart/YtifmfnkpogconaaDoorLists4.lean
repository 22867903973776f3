/- lists: List, TakeAll. -/
import Derived.Test.YtifmfnkpogconaaDoorKeep5
namespace Go.Proofs.YtifmfnkpogconaaDoor
open Go.RowKit

theorem T4K {t : TypeId} (h : TK t) : T4 t := by
  unfold TK at h; unfold T4
  rcases h with h | h
  · exact Or.inl h
  · exact Or.inr (Or.inl h)
theorem T4U {t : TypeId} (h : t = 71) : T4 t := Or.inr (Or.inr (Or.inl h))
theorem T4B {t : TypeId} (h : t = 4) : T4 t := Or.inr (Or.inr (Or.inr (Or.inl h)))
theorem ap_new {w : World} {B S b n : Nat} {t : TypeId} {U : Nat → Value} {R : Nat → List Value} {v : Value} {xs : List Value} {w' : World} (h : Lines w B S t U R n) (hS : S ≤ b) (hv : Row w' b t v xs) : ∀ k, k < n → Ap (U k) v := fun k hk => by
  refine (Classical.em _).imp_right fun hne => ?_
  intro e
  cases e2 : (U k).ownBlock with
  | none => exact hne e2
  | some g =>
    have h1 := h.hi k hk g e2
    have h2 := (hv.lt g (by rw [← e, e2])).1
    omega
theorem Wd.lines {w : World} {B gW m t n : Nat} {P : Nat → Pr} {U : Nat → Value} {X : Nat → List Nat} (h : Wd w B gW m P t n U X) : Lines w B w.heap.size 3 U (fun k => iV (X k)) n := by
  obtain ⟨vS, vR, vL, vK, N, h1, h2, h3, h4⟩ := h.blk
  exact h4.lines
theorem Wd.setP {w : World} {B gW m t n : Nat} {P P' : Nat → Pr} {U : Nat → Value} {X : Nat → List Nat} (h : Wd w B gW m P t n U X) (e : ∀ i, i < m → P' i = P i) : Wd w B gW m P' t n U X := by
  obtain ⟨vS, vR, vL, vK, N, h1, h2, h3, h4⟩ := h.blk
  obtain ⟨ss, k1, k2, k3⟩ := h3.s
  obtain ⟨rs, k4, k5, k6⟩ := h3.r
  exact ⟨⟨vS, vR, vL, vK, N, h1, h2, ⟨⟨ss, k1, k2, fun i hi => by rw [e i hi]; exact k3 i hi⟩, ⟨rs, k4, k5, fun i hi => by rw [e i hi]; exact k6 i hi⟩, fun i hi => by rw [e i hi]; exact h3.pr i hi, fun i j hi hj hne => by rw [e i hi, e j hj]; exact h3.apart i j hi hj hne⟩, h4⟩, h.low⟩
theorem alloc_below (w : World) (o : Obj) : Below w.heap.size w (w.alloc o) := (Below.refl _ _).alloc (Nat.le_refl _) _
/-- What a call of a World leaves. -/
def Left (w w' : World) (B gW m t : Nat) : Prop := (∃ P' n' U' X', Wd w' B gW m P' (t + 1) n' U' X' ∧ Tws m P') ∧ Ch B T4 w w'
set_option maxRecDepth 100000 in
set_option maxHeartbeats 4000000 in
theorem lists_list {w : World} {B gW m t n i : Nat} {P : Nat → Pr} {U : Nat → Value} {X : Nat → List Nat} (h : Wd w B gW m P t n U X) (htw : Tws m P) (hT : Tz w) (hi : i < m) (ht : t ≤ 1000) (O N : Int) :
    Calls Tryd.prog 32 #[.pointer (some ⟨gW, 0, none⟩), .agg #[.int .i64 7, .int .i64 O, .int .i64 N], .pointer (some ⟨(P i).g, 0, none⟩), .pointer (some ⟨(P i).g2, 0, none⟩)] w fun e w' => e = .returned (.bool true) ∧ Left w w' B gW m t := by
  have hb0 := alloc_below w (.cells #[.int .i64 7, .int .i64 O, .int .i64 N] 39)
  have h0 := h.below hb0
  have H1 := hide (list_calls (h0.pr hi).sp (hT.below hb0))
  have hlen := (h0.pr hi).sp.listLen (allF (P i).fr 0 (P i).ws).length
  rw [List.take_length] at hlen
  have HH : Hid (∀ w1 v, Row w1 (w.alloc (.cells #[.int .i64 7, .int .i64 O, .int .i64 N] 39)).heap.size 3 v (iV (allF (P i).fr 0 (P i).ws)) → Below (w.alloc (.cells #[.int .i64 7, .int .i64 O, .int .i64 N] 39)).heap.size (w.alloc (.cells #[.int .i64 7, .int .i64 O, .int .i64 N] 39)) w1 →
      Calls Tryd.prog 48 #[.pointer (some ⟨gW, 2, none⟩), v] w1 fun e w2 => (∃ r, e = .returned r) ∧ Hid (Row w2 (w.alloc (.cells #[.int .i64 7, .int .i64 O, .int .i64 N] 39)).heap.size 3 v (iV (allF (P i).fr 0 (P i).ws)) ∧ (∃ n' U' X', Wd w2 B gW m P (t + 1) n' U' X') ∧ Ch B T4 w w2 ∧ Rs w2 B (P i).g2 (P i).gb (P i).fr (P i).to_ (P i).bs)) := fun w1 v hv hb1 => by
    have h1 := h0.below hb1
    refine (keep_calls h1 hv (by have := h.low.2.1; have := hb0.size; omega) hlen ht (ap_new h0.lines (Nat.le_refl _) hv)).mono ?_
    rintro e w2 ⟨hr, ⟨n', U', X', hw⟩, hc⟩
    exact ⟨hr, hv.ch hc (by unfold TK; decide), ⟨n', U', X', hw⟩, (Ch.of_below (hb0.trans (hb1.mono hb0.size))).trans (hc.mono (Nat.le_refl _) fun t => T4K), (hw.pr hi).rs⟩
  have HA := hide ((htw i hi).all (h0.pr hi).sp)
  have HTW := hide htw
  clear h0 hlen htw h hT hb0
  go_enter Tryd.func32, Tryd.ntmps32
  go_wp2_with fail
  refine (unhide H1).mono ?_
  rintro e w1 ⟨v, rfl, hv, hb1⟩
  have HK := hide (unhide HH w1 v hv hb1)
  clear hv hb1
  go_wp2_with fail
  refine (unhide HK).mono ?_
  rintro e w2 ⟨⟨r, rfl⟩, HF⟩
  go_wp2_with fail
  refine (rlist_calls (HF.out).2.2.2).mono ?_
  rintro e w3 ⟨v3, rfl, hv3, hb3⟩
  rw [HA.out] at hv3
  have HS := hide (same_calls ((HF.out).1.below hb3) hv3)
  have HB3 := hide hb3
  clear hv3 hb3
  go_wp2_with fail
  refine (unhide HS).mono ?_
  rintro e w4 ⟨rfl, hb4⟩
  go_wp2
  go_ret
  obtain ⟨_, ⟨n', U', X', hw⟩, hc, _⟩ := HF.out
  exact ⟨rfl, ⟨P, n', U', X', (hw.below HB3.out).below hb4, HTW.out⟩, (hc.trans (Ch.of_below HB3.out)).trans (Ch.of_below hb4)⟩
end Go.Proofs.YtifmfnkpogconaaDoor
