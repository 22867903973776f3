/- A token put into a slice of the call's own. -/
import Derived.Test.YtcdilcjgmcamcabTkHb
namespace Go.Proofs.Ytcdilcjgmcamcab
open Go.RowKit Go.Maps Classical

theorem tkV_put : ∀ (l : List Tok) (k : Nat) (t : Tok), k < l.length → (((((tkV l).set (k * 4) (.int .i64 t.kind)).set (k * 4 + 1) (.string t.text)).set (k * 4 + 1 + 1) (.int .i64 t.line)).set (k * 4 + 1 + 1 + 1) (.int .i64 t.place)) = tkV (l.set k t)
  | [], k, t, h => absurd h (by simp)
  | x :: l, 0, t, _ => by
    show ((([_, _, _, _] ++ tkV l).set 0 _).set 1 _ |>.set 2 _ |>.set 3 _) = tkC t ++ tkV l
    rfl
  | x :: l, k + 1, t, h => by
    have ih := tkV_put l k t (by simpa using h)
    rw [show tkV (x :: l) = tkC x ++ tkV l from rfl, show (x :: l).set (k + 1) t = x :: l.set k t from rfl, show tkV (x :: l.set k t) = tkC x ++ tkV (l.set k t) from rfl, ← ih]
    unfold tkC
    rw [show (k + 1) * 4 = k * 4 + 1 + 1 + 1 + 1 by omega]
    rfl
theorem OwnT.put {W : World} {B g n c : Nat} {l : List Tok} (h : OwnT W B (.slice (some ⟨g, 0, none⟩) n c) l) (hn : l.length = n) {k : Nat} (hk : k < n) (t : Tok) :
    OwnT (W.setCells g (k * 4) (tkC t)) B (.slice (some ⟨g, 0, none⟩) n c) (l.set k t) ∧ W.grownBy (W.setCells g (k * 4) (tkC t)) (some g) := by
  subst hn
  obtain ⟨a1, b1⟩ := World.ownsRow.stored h (k * 4) (.int .i64 t.kind)
  obtain ⟨a2, b2⟩ := World.ownsRow.stored a1 (k * 4 + 1) (.string t.text)
  obtain ⟨a3, b3⟩ := World.ownsRow.stored a2 (k * 4 + 1 + 1) (.int .i64 t.line)
  obtain ⟨a4, b4⟩ := World.ownsRow.stored a3 (k * 4 + 1 + 1 + 1) (.int .i64 t.place)
  rw [tkV_put l k t hk] at a4
  refine ⟨?_, ?_⟩
  · unfold OwnT
    rw [List.length_set]
    exact a4
  · exact ⟨rfl, rfl, rfl, by simp [tkC, World.setCells, World.setCell], fun j hj hne => ((b4.block j (by simpa using hj) hne).trans (b3.block j (by simpa using hj) hne)).trans ((b2.block j (by simpa using hj) hne).trans (b1.block j hj hne))⟩
theorem OwnT.room {W : World} {B g n c : Nat} {l : List Tok} (h : OwnT W B (.slice (some ⟨g, 0, none⟩) n c) l) (hn : l.length = n) {k : Nat} (hk : k < n) : W.there g (k * 4) 4 := by
  subst hn
  intro j hj
  refine ⟨?_, World.ownsRow.frozenAt h _⟩
  rw [World.ownsRow.cellAt h _ (by omega), List.getElem?_eq_getElem (by rw [tkV_len]; omega)]
  rfl
theorem OwnT.base {W : World} {B g n c : Nat} {l : List Tok} (h : OwnT W B (.slice (some ⟨g, 0, none⟩) n c) l) : B ≤ g ∧ g < W.heap.size := World.ownsRow.lt h g rfl
theorem OwnT.cellTk {W : World} {B g n c : Nat} {l : List Tok} (h : OwnT W B (.slice (some ⟨g, 0, none⟩) n c) l) (hn : l.length = n) {k j : Nat} (hk : k < n) (hj : j < 4) : W.cell? ⟨g, k * 4 + j, none⟩ = (tkC (l.getD k .nul))[j]? := by
  subst hn
  rw [World.ownsRow.cellAt h _ (by omega), ← tkV_at l k j hk hj, Nat.mul_comm]
theorem tkV_putT : ∀ (l : List Tok) (k : Nat) (s : ByteArray), k < l.length → (tkV l).set (k * 4 + 1) (.string s) = tkV (l.set k { l.getD k .nul with text := s })
  | [], k, t, h => absurd h (by simp)
  | x :: l, 0, t, _ => rfl
  | x :: l, k + 1, s, h => by
    have ih := tkV_putT l k s (by simpa using h)
    rw [show tkV (x :: l) = tkC x ++ tkV l from rfl, show (x :: l).set (k + 1) { (x :: l).getD (k + 1) .nul with text := s } = x :: l.set k { l.getD k .nul with text := s } from rfl, show tkV (x :: l.set k { l.getD k .nul with text := s }) = tkC x ++ tkV (l.set k { l.getD k .nul with text := s }) from rfl, ← ih]
    unfold tkC
    rw [show (k + 1) * 4 = k * 4 + 1 + 1 + 1 + 1 by omega]
    rfl
theorem OwnT.putText {W : World} {B g n c : Nat} {l : List Tok} (h : OwnT W B (.slice (some ⟨g, 0, none⟩) n c) l) (hn : l.length = n) {k : Nat} (hk : k < n) (s : ByteArray) :
    OwnT (W.setCell ⟨g, k * 4 + 1, none⟩ (.string s)) B (.slice (some ⟨g, 0, none⟩) n c) (l.set k { l.getD k .nul with text := s }) := by
  subst hn
  obtain ⟨a1, b1⟩ := World.ownsRow.stored h (k * 4 + 1) (.string s)
  rw [tkV_putT l k s hk] at a1
  unfold OwnT
  rw [List.length_set]
  exact a1
theorem infoTz : (Try.prog.info? 26).map (·.size) = some 4 := by kernel_rfl
section
variable {ops : Array Oper} {rest : List Oper} {o : Oper} {a : Act} {Q : Exit → Act → World → Prop} {w : World}
theorem wpList_putTk (hgd : o.guard = none) (x y : Operand) (ho : o.op = .store 26 x y) {B g n c k : Nat} {l : List Tok} {t : Tok} (hx : a.eval x = .pointer (some ⟨g, k * 4, none⟩)) (hy : a.eval y = .agg #[.int .i64 t.kind, .string t.text, .int .i64 t.line, .int .i64 t.place])
    (h : OwnT w B (.slice (some ⟨g, 0, none⟩) n c) l) (hn : l.length = n) (hk : k < n)
    (hq : ∀ w', w' = w.setCells g (k * 4) (tkC t) → OwnT w' B (.slice (some ⟨g, 0, none⟩) n c) (l.set k t) → w.grownBy w' (some g) → wpList Try.prog ops Q rest (a.put o.dst undef) w') : wpList Try.prog ops Q (o :: rest) a w :=
  wpList_store_mid hgd 26 x y ho g (k * 4) _ hx hy (h.room hn hk) infoTz (all_oneCell_toArray (cs := tkC t) (by intro u hu; unfold tkC at hu; simp only [List.mem_cons, List.not_mem_nil, or_false] at hu; rcases hu with rfl | rfl | rfl | rfl <;> rfl)) (hq _ rfl (h.put hn hk t).1 (h.put hn hk t).2)
end
end Go.Proofs.Ytcdilcjgmcamcab
