/- literal. -/
import Derived.Test.YtcdilcjgmcamcabTkJ
namespace Go.Proofs.Ytcdilcjgmcamcab
open Go.RowKit Go.Maps

theorem nx_bad {s : ByteArray} {b : Nat} {σ : St} (hσ : σ.md ≠ .gap) {e : Int} (h : (stp σ (lk s b)).md = .bad e) : fin (run σ (s.data.toList.drop b)) = stp σ (lk s b) := by
  by_cases hb : b < s.size
  · rw [lk_drop hb, run_cons, bad_run h, bad_fin h]
  · rw [drop_out (by omega), run_nil, fin_stp (Or.inl hσ), lk_out (by omega)]
theorem nx_go {s : ByteArray} {b : Nat} {σ : St} (h : (lk s b).toNat ≠ 10) : fin (run σ (s.data.toList.drop b)) = fin (run (stp σ (lk s b)) (s.data.toList.drop (b + 1))) := by
  rw [lk_drop (lk_in h), run_cons]
/-- In a literal that began at a. -/
def Lt (s : ByteArray) (a b : Nat) (acc : List UInt8) : Prop := a < b ∧ ∀ (o : List Tok) (n p q : Nat), fin (run ⟨o, n, p, q, .gap⟩ (s.data.toList.drop a)) = fin (run ⟨o, n, p + (b - a), q, .lit p acc⟩ (s.data.toList.drop b))
theorem Lt.first {s : ByteArray} {a : Nat} (h : (lk s a).toNat = 34) : Lt s a (a + 1) [] := by
  refine ⟨by omega, fun o n p q => ?_⟩
  rw [nx_go (by omega), show p + (a + 1 - a) = p + 1 by omega]
  congr 2
  have : lk s a = 34 := UInt8.toNat_inj.1 (by rw [h]; rfl)
  rw [this]
  rfl
theorem Lt.plain {s : ByteArray} {a b : Nat} {acc : List UInt8} (h : Lt s a b acc) (h0 : (lk s b).toNat ≠ 34) (h1 : (lk s b).toNat ≠ 92) (h2 : 32 ≤ (lk s b).toNat) (h3 : (lk s b).toNat ≤ 126) : Lt s a (b + 1) (acc ++ [lk s b]) := by
  obtain ⟨hab, h⟩ := h
  refine ⟨by omega, fun o n p q => ?_⟩
  rw [h, nx_go (by omega)]
  congr 2
  show litS _ _ _ _ = _
  unfold litS
  rw [if_neg h0, if_neg h1, if_neg (by omega), if_neg (by omega)]
  show St.mk o n (p + (b - a) + 1) q _ = _
  rw [show p + (b - a) + 1 = p + (b + 1 - a) by omega]
theorem Lt.quote {s : ByteArray} {a b : Nat} {acc : List UInt8} (h : Lt s a b acc) (h0 : (lk s b).toNat = 34) (o : List Tok) (n p q : Nat) : fin (run ⟨o, n, p, q, .gap⟩ (s.data.toList.drop a)) = fin (run ⟨o ++ [⟨2, bs acc, n, p⟩], n, p + (b + 1 - a), p + (b + 1 - a), .gap⟩ (s.data.toList.drop (b + 1))) := by
  obtain ⟨hab, h⟩ := h
  rw [h, nx_go (by omega)]
  congr 2
  show litS _ _ _ _ = _
  unfold litS
  rw [if_pos h0]
  show St.mk _ n (p + (b - a) + 1) (p + (b - a) + 1) _ = _
  rw [show p + (b - a) + 1 = p + (b + 1 - a) by omega]
  rfl
theorem Lt.open {s : ByteArray} {a b : Nat} {acc : List UInt8} (h : Lt s a b acc) (h0 : (lk s b).toNat = 10) (o : List Tok) (n p q : Nat) : fin (run ⟨o, n, p, q, .gap⟩ (s.data.toList.drop a)) = ⟨o, n, p, q, .bad 111⟩ := by
  obtain ⟨hab, h⟩ := h
  have e : stp ⟨o, n, p + (b - a), q, .lit p acc⟩ (lk s b) = ⟨o, n, p, q, .bad 111⟩ := by
    show litS _ _ _ _ = _
    unfold litS
    rw [if_neg (by omega), if_neg (by omega), if_pos h0]
  rw [h, nx_bad (by simp) (by rw [e]), e]
theorem Lt.byte {s : ByteArray} {a b : Nat} {acc : List UInt8} (h : Lt s a b acc) (h0 : (lk s b).toNat < 32 ∨ 126 < (lk s b).toNat) (h1 : (lk s b).toNat ≠ 10) (o : List Tok) (n p q : Nat) : fin (run ⟨o, n, p, q, .gap⟩ (s.data.toList.drop a)) = ⟨o, n, p + (b - a), q, .bad 110⟩ := by
  obtain ⟨hab, h⟩ := h
  have e : stp ⟨o, n, p + (b - a), q, .lit p acc⟩ (lk s b) = ⟨o, n, p + (b - a), q, .bad 110⟩ := by
    show litS _ _ _ _ = _
    unfold litS
    rw [if_neg (by omega), if_neg (by omega), if_neg h1, if_pos h0]
  rw [h, nx_bad (by simp) (by rw [e]), e]
theorem esc_step {s : ByteArray} {b : Nat} (o : List Tok) (n P q fr : Nat) (acc : List UInt8) (hc : (lk s b).toNat = 92) : fin (run ⟨o, n, P, q, .lit fr acc⟩ (s.data.toList.drop b)) = fin (run ⟨o, n, P + 1, q, .esc fr acc⟩ (s.data.toList.drop (b + 1))) := by
  rw [nx_go (by omega)]
  congr 2
  show litS _ _ _ _ = _
  unfold litS
  rw [if_neg (by omega), if_pos hc]
theorem hx_step {s : ByteArray} {b : Nat} (o : List Tok) (n P q fr : Nat) (acc : List UInt8) (hc : (lk s b).toNat = 120) : fin (run ⟨o, n, P, q, .esc fr acc⟩ (s.data.toList.drop b)) = fin (run ⟨o, n, P + 1, q, .hx fr acc⟩ (s.data.toList.drop (b + 1))) := by
  rw [nx_go (by omega)]
  congr 2
  show escS _ _ _ _ = _
  unfold escS
  rw [if_neg (by omega), if_neg (by omega), if_pos hc]
theorem dg_ne {c : UInt8} {h : Nat} (e : dg c = some h) : c.toNat ≠ 10 := by
  unfold dg at e
  intro hc
  rw [if_neg (by omega), if_neg (by omega)] at e
  cases e
theorem Lt.escape {s : ByteArray} {a b : Nat} {acc : List UInt8} (h : Lt s a b acc) (hc : (lk s b).toNat = 92) :
    ((escP (lk s (b + 1)) (lk s (b + 2)) (lk s (b + 3))).2 = 0 ∧ ∀ (o : List Tok) (n p q : Nat), fin (run ⟨o, n, p, q, .gap⟩ (s.data.toList.drop a)) = ⟨o, n, p + (b - a), q, .bad 112⟩) ∨
    (0 < (escP (lk s (b + 1)) (lk s (b + 2)) (lk s (b + 3))).2 ∧ (escP (lk s (b + 1)) (lk s (b + 2)) (lk s (b + 3))).2 ≤ 4 ∧ b + (escP (lk s (b + 1)) (lk s (b + 2)) (lk s (b + 3))).2 ≤ s.size ∧ Lt s a (b + (escP (lk s (b + 1)) (lk s (b + 2)) (lk s (b + 3))).2) (acc ++ [(escP (lk s (b + 1)) (lk s (b + 2)) (lk s (b + 3))).1])) := by
  obtain ⟨hab, h⟩ := h
  have h1 : ∀ (o : List Tok) (n p q : Nat), fin (run ⟨o, n, p, q, .gap⟩ (s.data.toList.drop a)) = fin (run ⟨o, n, p + (b - a) + 1, q, .esc p acc⟩ (s.data.toList.drop (b + 1))) := fun o n p q => by rw [h, esc_step _ _ _ _ _ _ hc]
  by_cases c1 : (lk s (b + 1)).toNat = 34 ∨ (lk s (b + 1)).toNat = 92
  · right
    have e : escP (lk s (b + 1)) (lk s (b + 2)) (lk s (b + 3)) = (lk s (b + 1), 2) := by unfold escP; rw [if_pos c1]
    rw [e]
    have hb1 := lk_in (s := s) (i := b + 1) (by omega)
    refine ⟨by simp, by simp, hb1, by omega, fun o n p q => ?_⟩
    rw [h1, nx_go (by omega)]
    congr 2
    show escS _ _ _ _ = _
    unfold escS
    rw [if_pos c1]
    show St.mk o n (p + (b - a) + 1 + 1) q _ = _
    rw [show p + (b - a) + 1 + 1 = p + (b + 2 - a) by omega]
  · by_cases c2 : (lk s (b + 1)).toNat = 110
    · right
      have e : escP (lk s (b + 1)) (lk s (b + 2)) (lk s (b + 3)) = (10, 2) := by unfold escP; rw [if_neg c1, if_pos c2]
      rw [e]
      have hb1 := lk_in (s := s) (i := b + 1) (by omega)
      refine ⟨by simp, by simp, hb1, by omega, fun o n p q => ?_⟩
      rw [h1, nx_go (by omega)]
      congr 2
      show escS _ _ _ _ = _
      unfold escS
      rw [if_neg c1, if_pos c2]
      show St.mk o n (p + (b - a) + 1 + 1) q _ = _
      rw [show p + (b - a) + 1 + 1 = p + (b + 2 - a) by omega]
    · by_cases c3 : (lk s (b + 1)).toNat = 120
      · have h2 : ∀ (o : List Tok) (n p q : Nat), fin (run ⟨o, n, p, q, .gap⟩ (s.data.toList.drop a)) = fin (run ⟨o, n, p + (b - a) + 1 + 1, q, .hx p acc⟩ (s.data.toList.drop (b + 2))) := fun o n p q => by rw [h1, hx_step _ _ _ _ _ _ c3]
        cases d2 : dg (lk s (b + 2)) with
        | none =>
          left
          have e : escP (lk s (b + 1)) (lk s (b + 2)) (lk s (b + 3)) = (0, 0) := by unfold escP; rw [if_neg c1, if_neg c2, if_pos c3, d2]
          rw [e]
          refine ⟨rfl, fun o n p q => ?_⟩
          have e2 : stp ⟨o, n, p + (b - a) + 1 + 1, q, .hx p acc⟩ (lk s (b + 2)) = ⟨o, n, p + (b - a), q, .bad 112⟩ := by
            show hxS _ _ _ _ = _
            unfold hxS
            rw [d2]
            show St.mk o n (p + (b - a) + 1 + 1 - 2) q _ = _
            rw [show p + (b - a) + 1 + 1 - 2 = p + (b - a) by omega]
          rw [h2, nx_bad (by simp) (by rw [e2]), e2]
        | some hh =>
          have h3 : ∀ (o : List Tok) (n p q : Nat), fin (run ⟨o, n, p, q, .gap⟩ (s.data.toList.drop a)) = fin (run ⟨o, n, p + (b - a) + 3, q, .hy p acc hh⟩ (s.data.toList.drop (b + 3))) := fun o n p q => by
            rw [h2, nx_go (dg_ne d2)]
            congr 2
            show hxS _ _ _ _ = _
            unfold hxS
            rw [d2]
          cases d3 : dg (lk s (b + 3)) with
          | none =>
            left
            have e : escP (lk s (b + 1)) (lk s (b + 2)) (lk s (b + 3)) = (0, 0) := by unfold escP; rw [if_neg c1, if_neg c2, if_pos c3, d2, d3]
            rw [e]
            refine ⟨rfl, fun o n p q => ?_⟩
            have e2 : stp ⟨o, n, p + (b - a) + 3, q, .hy p acc hh⟩ (lk s (b + 3)) = ⟨o, n, p + (b - a), q, .bad 112⟩ := by
              show hyS _ _ _ _ _ = _
              unfold hyS
              rw [d3]
              show St.mk o n (p + (b - a) + 3 - 3) q _ = _
              rw [show p + (b - a) + 3 - 3 = p + (b - a) by omega]
            rw [h3, nx_bad (by simp) (by rw [e2]), e2]
          | some ll =>
            right
            have e : escP (lk s (b + 1)) (lk s (b + 2)) (lk s (b + 3)) = (UInt8.ofNat (16 * hh + ll), 4) := by unfold escP; rw [if_neg c1, if_neg c2, if_pos c3, d2, d3]
            rw [e]
            have hb3 := lk_in (s := s) (i := b + 3) (dg_ne d3)
            refine ⟨by simp, by simp, hb3, by omega, fun o n p q => ?_⟩
            rw [h3, nx_go (dg_ne d3)]
            congr 2
            show hyS _ _ _ _ _ = _
            unfold hyS
            rw [d3]
            show St.mk o n (p + (b - a) + 3 + 1) q _ = _
            rw [show p + (b - a) + 3 + 1 = p + (b + 4 - a) by omega]
      · left
        have e : escP (lk s (b + 1)) (lk s (b + 2)) (lk s (b + 3)) = (0, 0) := by unfold escP; rw [if_neg c1, if_neg c2, if_neg c3]
        rw [e]
        refine ⟨rfl, fun o n p q => ?_⟩
        have e2 : stp ⟨o, n, p + (b - a) + 1, q, .esc p acc⟩ (lk s (b + 1)) = ⟨o, n, p + (b - a), q, .bad 112⟩ := by
          show escS _ _ _ _ = _
          unfold escS
          rw [if_neg c1, if_neg c2, if_neg c3]
          show St.mk o n (p + (b - a) + 1 - 1) q _ = _
          rw [show p + (b - a) + 1 - 1 = p + (b - a) by omega]
        rw [h1, nx_bad (by simp) (by rw [e2]), e2]
end Go.Proofs.Ytcdilcjgmcamcab
