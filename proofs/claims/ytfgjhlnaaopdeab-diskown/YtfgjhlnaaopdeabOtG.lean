/- DiskTells, walked whole. -/
import Derived.Test.YtfgjhlnaaopdeabOtF
namespace Go.Proofs.Ytfgjhlnaaopdeab
open Go.RowKit Go.Maps

theorem Dks.congr {w wr : World} {B n : Nat} {P G P' G' : Nat → Nat} {D D' : Nat → AD} (h : Dks w wr B n P G D) (hP : ∀ j, j < n → P' j = P j) (hG : ∀ j, j < n → G' j = G j) (hD : ∀ j, j < n → D' j = D j) : Dks w wr B n P' G' D' := by
  obtain ⟨gm, V, h1, h2, h3⟩ := h.all
  refine ⟨⟨gm, V, fun j hj => ?_, fun j hj => ?_, fun i j hi hj => ?_⟩, fun j hj => ?_, h.bel⟩
  · rw [hP j hj, hG j hj, hD j hj]; exact h1 j hj
  · rw [hP j hj, hG j hj]; exact h2 j hj
  · rw [hP j hj, hG j hj, hP i hi, hG i hi]; exact h3 i j hi hj
  · rw [hD j hj]; exact h.few j hj
/-- One disk. -/
def Dk1 (w wr : World) (B p gl : Nat) (D : AD) : Prop := Dks w wr B 1 (fun _ => p) (fun _ => gl) (fun _ => D)
theorem dk1_of {w wr : World} {B p gl : Nat} {P G : Nat → Nat} {D : Nat → AD} {D' : AD} (h : Dks w wr B 1 P G D) (hP : P 0 = p) (hG : G 0 = gl) (hD : D 0 = D') : Dk1 w wr B p gl D' :=
  h.congr (fun j hj => by rw [show j = 0 by omega, hP]) (fun j hj => by rw [show j = 0 by omega, hG]) (fun j hj => by rw [show j = 0 by omega, hD])
theorem km_drew {w w' : World} (h : Km w.drew w') : Km w w' := by
  obtain ⟨F, hu, ht⟩ := h
  exact ⟨F, ⟨hu.os, hu.tape, hu.output, hu.size, hu.block⟩, ht⟩
theorem IsWs.blk_km {w w' : World} {g n c : Nat} {l : Ats} (h : IsWs w (.slice (some ⟨g, 0, none⟩) n c) l) (hk : Km w w') : w'.heap[g]? = w.heap[g]? := by
  obtain ⟨es, r1, _⟩ := h.rd
  obtain ⟨F, hu, ht⟩ := hk
  rcases r1.2 with ⟨hv, _⟩ | ⟨g', cap', cur, hv, _, hg, _⟩
  · cases hv
  · injection hv with e1
    injection e1 with e1
    injection e1 with e1
    subst e1
    exact hu.block g (Array.getElem?_eq_some_iff.1 hg).1 (fun hF => (ht g hF _ _ _ hg).elim (by decide) (by decide))
theorem firstOf_at (k : Nat) : firstOf (k + 1) (k : Int) = k + 1 := by unfold firstOf; rw [if_pos (by omega)]; omega
theorem firstOf_not {k : Nat} {x : Int} (h : ¬ (k : Int) = x) : firstOf (k + 1) x = firstOf k x := by
  unfold firstOf
  by_cases h1 : 0 ≤ x ∧ x < (k : Int)
  · rw [if_pos h1, if_pos (by omega)]
  · rw [if_neg h1, if_neg (by omega)]
theorem write_enter (v u z : Value) (W : World) : (callFunc 10 #[v, u, z]).run Try.prog W = .ok (.enter 10 #[v, u, z]) W := by kernel_rfl
/-- Behind k of the writes. -/
def Tl (w wr : World) (k n p : Nat) (vl : Value) (L : Ats) (f : Int) : Prop := ∃ gl D, Dk1 w wr (2 * k) p gl D ∧ IsWs wr vl L ∧ D.la.length = n ∧ Nw D (L.take k) ∧ Ls D (L.take (firstOf k f))
theorem take_snoc {L : Ats} {k : Nat} (hk : k < L.length) : L.take (k + 1) = L.take k ++ [L.getD k dA] := by rw [List.take_succ_eq_append_getElem hk, getD_eq hk]
end Go.Proofs.Ytfgjhlnaaopdeab
