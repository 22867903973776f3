/- ChainReads: a whole reading of a base. -/
import Derived.Test.YtdalbalphagmfaaGreatDoorTF
import Derived.Deep.DeepCutAuto
namespace Go.Proofs.YtdalbalphagmfaaGreatDoor
open Go.RowKit Go.Maps

theorem rread_enter (v u z : Value) (W : World) : (callFunc 41 #[v, u, z]).run Tryz.prog W = .ok (.enter 41 #[v, u, z]) W := by kernel_rfl
theorem get_enter6 (v u z : Value) (W : World) : (callFunc 36 #[v, u, z]).run Tryz.prog W = .ok (.enter 36 #[v, u, z]) W := by kernel_rfl
theorem allocT_run (W : World) : (Instr.alloc 104 true (.tuple #[])).run Tryz.prog W = .ok (.pointer (some ⟨W.heap.size, 0, none⟩)) (W.alloc (.cells (tV (.slice none 0 0) 0 0 (.slice none 0 0) false).toArray 104)) := by kernel_rfl
theorem step_allocT {ops : Array Oper} {o : Oper} {a : Act} {w : World} {K : Act → World → Prop} {Q : Exit → Act → World → Prop} {E : Prop} (hgd : o.guard = none) (ho : o.op = .alloc 104) (hk : K (a.put o.dst (.pointer (some ⟨w.heap.size, 0, none⟩))) (w.alloc (.cells (tV (.slice none 0 0) 0 0 (.slice none 0 0) false).toArray 104))) : if Region.wanted o (yielded ops a.tmps) = true then Oper.wp Tryz.prog o a w K Q else E := by
 rw [if_pos (by simp [Region.wanted, hgd])]
 unfold Oper.wp execOp
 simp only [ho, Sem.run_bind, allocT_run w, Result.andThen_ok, Sem.run_pure]
 exact hk
/-- One look, and so many. -/
def stS (N : Nat → List Int) (hs : List Int) (fi le : Int) (fr to_ : Nat) (S : RS) : RS := if outB le S = true then S else readS (N S.nx) hs fi le fr to_ S
def lkS (N : Nat → List Int) (hs : List Int) (fi le : Int) (fr to_ : Nat) : Nat → RS → RS
 | 0, S => S
 | i + 1, S => lkS N hs fi le fr to_ i (stS N hs fi le fr to_ S)
section
variable {N : Nat → List Int} {hs : List Int} {fi le : Int} {fr to_ : Nat}
theorem lkS_succ : ∀ (i : Nat) (S : RS), lkS N hs fi le fr to_ (i + 1) S = stS N hs fi le fr to_ (lkS N hs fi le fr to_ i S)
 | 0, _ => rfl
 | i + 1, S => lkS_succ i (stS N hs fi le fr to_ S)
theorem lkS_out : ∀ (i : Nat) {S : RS}, outB le S = true → lkS N hs fi le fr to_ i S = S
 | 0, _, _ => rfl
 | i + 1, S, h => by
   show lkS N hs fi le fr to_ i (stS N hs fi le fr to_ S) = S
   have e : stS N hs fi le fr to_ S = S := by unfold stS; rw [if_pos h]
   rw [e]
   exact lkS_out i h
theorem goS_len {N : Nat → List Int} {hs : List Int} {fi le : Int} {fr to_ : Nat} : ∀ (k : Nat) (S : RS), S.ns.length ≤ (goS N hs fi le fr to_ k S).ns.length := by
 intro k
 induction k with
 | zero => intro S; exact Nat.le_refl _
 | succ k ih =>
   intro S
   have hrl : (readS (N S.nx) hs fi le fr to_ S).ns.length = S.ns.length + 1 := by rw [readS_ns, List.length_append, List.length_singleton]
   rw [goS]
   split
   · omega
   · have := ih (readS (N S.nx) hs fi le fr to_ S); omega
theorem lkS_end : ∀ (k : Nat) {S : RS}, outB le S = false → (S.ns.length : Int) + (k : Int) = secN le → 1 ≤ k → outB le (goS N hs fi le fr to_ k S) = true ∧ (goS N hs fi le fr to_ k S).ns.length ≤ S.ns.length + k ∧ ∀ i, (goS N hs fi le fr to_ k S).ns.length ≤ S.ns.length + i → lkS N hs fi le fr to_ i S = goS N hs fi le fr to_ k S
 | 0, _, _, _, h => absurd h (by omega)
 | k + 1, S, ho, hk, _ => by
   have hst : stS N hs fi le fr to_ S = readS (N S.nx) hs fi le fr to_ S := by unfold stS; rw [if_neg (by rw [ho]; decide)]
   have hrl : (readS (N S.nx) hs fi le fr to_ S).ns.length = S.ns.length + 1 := by rw [readS_ns, List.length_append, List.length_singleton]
   obtain ⟨R, hR⟩ : ∃ R, readS (N S.nx) hs fi le fr to_ S = R := ⟨_, rfl⟩
   rw [hR] at hst hrl
   by_cases he : R.br ≠ 0 ∨ (R.ns.length : Int) = secN le
   · have hg : goS N hs fi le fr to_ (k + 1) S = R := by unfold goS; rw [hR, if_pos he]
     have hoR : outB le R = true := by rw [outB_end]; unfold endR; exact decide_eq_true he
     rw [hg]
     refine ⟨hoR, by omega, fun i hi => ?_⟩
     cases i with
     | zero => omega
     | succ i =>
       show lkS N hs fi le fr to_ i (stS N hs fi le fr to_ S) = R
       rw [hst]
       exact lkS_out i hoR
   · have hg : goS N hs fi le fr to_ (k + 1) S = goS N hs fi le fr to_ k R := by
      rw [goS]
      rw [hR, if_neg he]
     have hoR : outB le R = false := by rw [outB_end]; unfold endR; exact decide_eq_false he
     have hk1 : 1 ≤ k := by
      rcases Nat.eq_zero_or_pos k with h0 | h0
      · exact absurd (Or.inr (by rw [hrl]; omega)) he
      · exact h0
     obtain ⟨h1, h2, h3⟩ := lkS_end k hoR (by rw [hrl]; omega) hk1
     rw [hg]
     refine ⟨h1, by omega, fun i hi => ?_⟩
     cases i with
     | zero =>
       have h4 : R.ns.length ≤ (goS N hs fi le fr to_ k R).ns.length := by
        have := goS_len (N := N) (hs := hs) (fi := fi) (le := le) (fr := fr) (to_ := to_) k R
        omega
       omega
     | succ i =>
       show lkS N hs fi le fr to_ i (stS N hs fi le fr to_ S) = _
       rw [hst]
       exact h3 i (by omega)
theorem goS_same {N' : Nat → List Int} (hN : ∀ i, i < to_ → N' i = N i) (hb : ∀ i, i < to_ → ∀ x ∈ N i, 0 ≤ x ∧ x ≤ 255) (h1 : 1 ≤ fr) (hfi : fi ≠ 0) : ∀ (k : Nat) {S : RS}, Pj le fr to_ S → outB le S = false → goS N' hs fi le fr to_ k S = goS N hs fi le fr to_ k S
 | 0, _, _, _ => rfl
 | k + 1, S, hP, ho => by
   have hx := (hP.go ho).1.at_.2
   have e := hN _ hx
   have hP2 := hP.step (hs := hs) ho (hb _ hx) h1 hfi
   rw [goS, goS, e]
   by_cases he : (readS (N S.nx) hs fi le fr to_ S).br ≠ 0 ∨ ((readS (N S.nx) hs fi le fr to_ S).ns.length : Int) = secN le
   · rw [if_pos he, if_pos he]
   · rw [if_neg he, if_neg he]
     exact goS_same hN hb h1 hfi k hP2 (by rw [outB_end]; unfold endR; exact decide_eq_false he)
end
end Go.Proofs.YtdalbalphagmfaaGreatDoor
