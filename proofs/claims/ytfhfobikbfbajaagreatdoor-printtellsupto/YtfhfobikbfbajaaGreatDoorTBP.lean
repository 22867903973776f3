/- The law's own keys: laid with marks behind them. Copies of terms and tasks, with marks in the room behind each list. Copies of terms, with marks behind each list. The law's own keys laid, whatever they are; copies of tasks with marks: what they are. -/
import Derived.Test.YtfhfobikbfbajaaGreatDoorTBO
import Derived.Test.YtfhfobikbfbajaaGreatDoorTAJ
namespace Go.Proofs.YtfhfobikbfbajaaGreatDoor
open Go.RowKit Go.Maps

def kysC (ks : List (List UInt8)) : List Value := ks.flatMap kyC
def kmA : List UInt8 := 201 :: 1 :: List.replicate 30 0
def kmB : List UInt8 := 202 :: 2 :: List.replicate 30 0
theorem kyC_len {k : List UInt8} (h : k.length = 32) : (kyC k).length = 32 := by unfold kyC; rw [List.length_map, iL_len, h]
theorem kysC_len : ∀ {ks : List (List UInt8)}, (∀ k ∈ ks, k.length = 32) → (kysC ks).length = ks.length * 32
  | [], _ => rfl
  | k :: ks, h => by
    have ih := kysC_len (ks := ks) (fun x hx => h x (List.mem_cons_of_mem _ hx))
    unfold kysC at ih ⊢
    rw [List.flatMap_cons, List.length_append, ih, kyC_len (h k (by simp)), List.length_cons]
    omega
theorem kys_at {W : World} {b : Nat} : ∀ {ks : List (List UInt8)} {o : Nat}, (∀ k ∈ ks, k.length = 32) → (∀ i, i < ks.length → W.rangeAt b (o + i * 32) (kyC (ks.getD i []))) → ∀ j u, (kysC ks)[j]? = some u → W.cell? ⟨b, o + j, none⟩ = some u
  | [], _, _, _, j, u, hu => by simp [kysC] at hu
  | k :: ks, o, h32, h, j, u, hu => by
    have hk := kyC_len (h32 k (by simp))
    unfold kysC at hu
    rw [List.flatMap_cons] at hu
    by_cases hj : j < 32
    · rw [List.getElem?_append_left (by omega)] at hu
      have := h 0 (by simp) j u (by simpa using hu)
      simpa using this
    · rw [List.getElem?_append_right (by omega), hk] at hu
      have := kys_at (ks := ks) (o := o + 32) (fun x hx => h32 x (List.mem_cons_of_mem _ hx)) (fun i hi => by
        have := h (i + 1) (by simpa using hi)
        rw [show o + 32 + i * 32 = o + (i + 1) * 32 by omega]
        simpa using this) (j - 32) u hu
      rw [show o + 32 + (j - 32) = o + j by omega] at this
      exact this
theorem kys_one : ∀ {ks : List (List UInt8)}, ∀ u ∈ kysC ks, u.oneCell' = true := by
  intro ks u hu
  obtain ⟨k, _, hk⟩ := List.mem_flatMap.1 hu
  exact key_one (iL k) u hk
theorem bldA (W : World) : (Instr.build 32 #[(0, .int .u8 201), (1, .int .u8 1)]).run Tryz.prog W = .ok (.agg (kyC kmA).toArray) W := by kernel_rfl
theorem bldB (W : World) : (Instr.build 32 #[(0, .int .u8 202), (1, .int .u8 2)]).run Tryz.prog W = .ok (.agg (kyC kmB).toArray) W := by kernel_rfl
theorem bldAB (W : World) : (Instr.buildSlice 26 2 #[(0, .agg (kyC kmA).toArray), (1, .agg (kyC kmB).toArray)]).run Tryz.prog W = .ok (.slice (some ⟨W.heap.size, 0, none⟩) 2 2) (W.alloc (.cells (kysC [kmA, kmB]).toArray 32)) := by kernel_rfl
section
variable {ops : Array Oper} {rest : List Oper} {o : Oper} {a : Act} {Q : Exit → Act → World → Prop} {w : World}
theorem wpList_bldK (hgd : o.guard = none) (x y : Operand) (ho : o.op = .build 32 #[(0, x), (1, y)]) {p q u : Value} (hx : a.eval x = p) (hy : a.eval y = q) (hrun : ∀ W, (Instr.build 32 #[(0, p), (1, q)]).run Tryz.prog W = .ok u W)
    (hk : wpList Tryz.prog ops Q rest (a.put o.dst u) w) : wpList Tryz.prog ops Q (o :: rest) a w := by
  refine wpList_plain hgd fun K hK => ?_
  unfold Oper.wp execOp
  simp only [ho, List.map_toArray, List.map_cons, List.map_nil, hx, hy, Sem.run_bind, hrun, Result.andThen_ok, Sem.run_pure]
  exact hK _ _ hk
theorem wpList_bldK2 (hgd : o.guard = none) (x y : Operand) (ho : o.op = .buildSlice 26 2 #[(0, x), (1, y)]) (hx : a.eval x = .agg (kyC kmA).toArray) (hy : a.eval y = .agg (kyC kmB).toArray)
    (hk : wpList Tryz.prog ops Q rest (a.put o.dst (.slice (some ⟨w.heap.size, 0, none⟩) 2 2)) (w.alloc (.cells (kysC [kmA, kmB]).toArray 32))) : wpList Tryz.prog ops Q (o :: rest) a w := by
  refine wpList_plain hgd fun K hK => ?_
  unfold Oper.wp execOp
  simp only [ho, List.map_toArray, List.map_cons, List.map_nil, hx, hy, Sem.run_bind, bldAB, Result.andThen_ok, Sem.run_pure]
  exact hK _ _ hk
end
theorem rowK_at {W : World} {B n : Nat} {v : Value} {cs : List Value} (h : W.ownsRow B 32 32 v n cs) (hn : 0 < n) : ∃ g c, v = .slice (some ⟨g, 0, none⟩) n c ∧ B ≤ g ∧ n ≤ c ∧ c ≤ 9223372036854775807 := by
  rcases h.2 with ⟨_, h0⟩ | ⟨g, cap, cur, e, hb, _, hnc, hcm, _⟩
  · omega
  · exact ⟨g, cap, e, hb, hnc, by unfold maxLen at hcm; omega⟩
theorem kmAB_len : ∀ k ∈ [kmA, kmB], k.length = 32 := by
  intro k hk
  simp only [List.mem_cons, List.not_mem_nil, or_false] at hk
  rcases hk with rfl | rfl <;> rfl
end Go.Proofs.YtfhfobikbfbajaaGreatDoor

namespace Go.Proofs.YtfhfobikbfbajaaGreatDoor
open Go.RowKit Go.Maps

def kmk2 : List Tm := [⟨-71, ByteArray.empty, 0, 0, []⟩, ⟨-72, ByteArray.empty, 0, 0, []⟩]
/-- A slice of a row of the call's own, with room for two behind it. -/
def Rk (W : World) (B : Nat) (T : TypeId) (s : Nat) (v : Value) (n : Nat) (cs : List Value) : Prop := ∃ g c, v = .slice (some ⟨g, 0, none⟩) n c ∧ W.ownsRow B T s (.slice (some ⟨g, 0, none⟩) (n + 2) c) (n + 2) cs
theorem Rk.kept {W W' : World} {B : Nat} {T : TypeId} {s : Nat} {v : Value} {n : Nat} {cs : List Value} {row : Option Nat} (h : Rk W B T s v n cs) (hg : W.grownBy W' row) (hne : v.ownBlock ≠ row) : Rk W' B T s v n cs := by
  obtain ⟨g, c, rfl, h⟩ := h
  exact ⟨g, c, rfl, h.kept hg (Or.inr hne)⟩
theorem Rk.below {W W' : World} {B : Nat} {T : TypeId} {s : Nat} {v : Value} {n : Nat} {cs : List Value} (h : Rk W B T s v n cs) (hb : Below W.heap.size W W') : Rk W' B T s v n cs := by
  obtain ⟨g, c, rfl, h⟩ := h
  exact ⟨g, c, rfl, owns_below h hb⟩
theorem Rk.mono {W : World} {B B' : Nat} {T : TypeId} {s : Nat} {v : Value} {n : Nat} {cs : List Value} (h : Rk W B T s v n cs) (hb : B' ≤ B) : Rk W B' T s v n cs := by
  obtain ⟨g, c, rfl, h⟩ := h
  exact ⟨g, c, rfl, owns_mono h hb⟩
theorem Rk.head {W : World} {B : Nat} {T : TypeId} {s : Nat} {v : Value} {n : Nat} {cs : List Value} (h : Rk W B T s v n cs) : ∃ g c, v = .slice (some ⟨g, 0, none⟩) n c ∧ n + 2 ≤ c ∧ c ≤ 9223372036854775807 ∧ B ≤ g ∧ g < W.heap.size ∧ (∀ j, j < (n + 2) * s → W.cell? ⟨g, j, none⟩ = cs[j]?) ∧ (∃ cur m, W.heap[g]? = some (Obj.cells cur T m)) := by
  obtain ⟨g, c, rfl, h⟩ := h
  obtain ⟨g', c', e, h1, h2, h3, h4⟩ := owns_shape h (by omega)
  cases e
  refine ⟨g, c, rfl, h1, h2, h3, ?_, h4, ?_⟩
  · exact (World.ownsRow.lt h g rfl).2
  · rcases h.2 with ⟨e, _⟩ | ⟨g', cap, cur, e, _, hgg, _⟩
    · cases e
    · cases e; exact ⟨_, _, hgg⟩
/-- A list of arguments with two marks behind it, each list below it too. -/
def IsKt (W : World) : (Nat → Prop) → Nat → List Tm → Value → Prop
  | F, 0, ts, v => ts = [] ∧ ∃ V : Nat → Value, Rk W 0 52 5 v 0 (tmsC kmk2 V) ∧ V 0 = .slice none 0 0 ∧ V 1 = .slice none 0 0 ∧ ∀ b, v.ownBlock = some b → F b
  | F, d + 1, ts, v => ∃ V : Nat → Value, Rk W 0 52 5 v ts.length (tmsC (ts ++ kmk2) V) ∧ V ts.length = .slice none 0 0 ∧ V (ts.length + 1) = .slice none 0 0 ∧ (∀ b, v.ownBlock = some b → F b) ∧ ∀ j, j < ts.length → IsKt W F d (ts.getD j .nul).args (V j)
/-- The part of it that does not speak of the lists below. -/
theorem IsKt.row {W : World} {F : Nat → Prop} : ∀ {d : Nat} {ts : List Tm} {v : Value}, IsKt W F d ts v → ∃ V : Nat → Value, Rk W 0 52 5 v ts.length (tmsC (ts ++ kmk2) V) ∧ V ts.length = .slice none 0 0 ∧ V (ts.length + 1) = .slice none 0 0 ∧ (∀ b, v.ownBlock = some b → F b) ∧ ∀ j, j < ts.length → ∃ e, d = e + 1 ∧ IsKt W F e (ts.getD j .nul).args (V j)
  | 0, ts, v, h => by
    obtain ⟨rfl, V, h1, h2, h3, h4⟩ := h
    exact ⟨V, h1, h2, h3, h4, fun j hj => by simp at hj⟩
  | d + 1, ts, v, h => by
    obtain ⟨V, h1, h2, h3, h4, h5⟩ := h
    exact ⟨V, h1, h2, h3, h4, fun j hj => ⟨d, rfl, h5 j hj⟩⟩
theorem IsKt.blk {W : World} {F : Nat → Prop} {d : Nat} {ts : List Tm} {v : Value} (h : IsKt W F d ts v) : ∃ g c, v = .slice (some ⟨g, 0, none⟩) ts.length c ∧ ts.length + 2 ≤ c ∧ c ≤ 9223372036854775807 ∧ F g ∧ TB W g := by
  obtain ⟨V, h1, _, _, hF, _⟩ := h.row
  obtain ⟨g, c, e, h2, h3, _, _, _, cur, m, h4⟩ := h1.head
  subst e
  exact ⟨g, c, rfl, h2, h3, hF g rfl, ⟨_, _, h4⟩⟩
theorem IsKt.one {W : World} {F : Nat → Prop} {d : Nat} {ts : List Tm} {v : Value} (h : IsKt W F d ts v) : v.oneCell' = true := by
  obtain ⟨g, c, rfl, _⟩ := h.blk
  rfl
/-- What does not touch its blocks leaves it. -/
theorem IsKt.keep {W W' : World} : ∀ {F G : Nat → Prop} {d : Nat} {ts : List Tm} {v : Value}, IsKt W F d ts v → (∀ b, F b → TB W b → W'.heap[b]? = W.heap[b]?) → (∀ b, F b → TB W b → G b) → IsKt W' G d ts v := by
  have hrk : ∀ {F G : Nat → Prop} {n : Nat} {v : Value} {cs : List Value}, Rk W 0 52 5 v n cs → (∀ b, v.ownBlock = some b → F b) → (∀ b, F b → TB W b → W'.heap[b]? = W.heap[b]?) → (∀ b, F b → TB W b → G b) → Rk W' 0 52 5 v n cs ∧ ∀ b, v.ownBlock = some b → G b := by
    intro F G n v cs h hF hk hG
    obtain ⟨g, c, rfl, hl, hh⟩ := h
    rcases hh with ⟨e, _⟩ | ⟨g', cap, cur, e, hB, hg, h1, h2, h3, h4⟩
    · cases e
    · cases e
      have hT : TB W g := ⟨_, _, hg⟩
      exact ⟨⟨g, c, rfl, hl, Or.inr ⟨g, c, cur, rfl, hB, (hk g (hF g rfl) hT).trans hg, h1, h2, h3, h4⟩⟩, fun b hb => by cases hb; exact hG g (hF g rfl) hT⟩
  intro F G d
  induction d with
  | zero =>
    intro ts v h hk hG
    obtain ⟨e, V, h1, h2, h3, h4⟩ := h
    obtain ⟨q1, q2⟩ := hrk h1 h4 hk hG
    exact ⟨e, V, q1, h2, h3, q2⟩
  | succ d ih =>
    intro ts v h hk hG
    obtain ⟨V, h1, h2, h3, h4, h5⟩ := h
    obtain ⟨q1, q2⟩ := hrk h1 h4 hk hG
    exact ⟨V, q1, h2, h3, q2, fun j hj => ih (h5 j hj) hk hG⟩
theorem IsKt.below {W W' : World} {F : Nat → Prop} {d : Nat} {ts : List Tm} {v : Value} (h : IsKt W F d ts v) (hb : Below W.heap.size W W') : IsKt W' F d ts v := h.keep (fun b _ hT => hb.block b hT.lt) (fun _ hF _ => hF)
theorem IsKt.grown {W W' : World} {F : Nat → Prop} {row : Option Nat} {d : Nat} {ts : List Tm} {v : Value} (h : IsKt W F d ts v) (hg : W.grownBy W' row) (hne : ∀ b, F b → TB W b → row ≠ some b) : IsKt W' F d ts v := h.keep (fun b hF hT => hg.block b hT.lt (fun e => hne b hF hT e.symm)) (fun _ hF _ => hF)
theorem IsKt.mono {W : World} {F G : Nat → Prop} {d : Nat} {ts : List Tm} {v : Value} (h : IsKt W F d ts v) (hg : ∀ b, F b → TB W b → G b) : IsKt W G d ts v := h.keep (fun _ _ _ => rfl) hg
theorem mk_at {ts : List Tm} {j : Nat} (hj : j < ts.length) : (ts ++ kmk2).getD j .nul = ts.getD j .nul := by
  rw [List.getD_eq_getElem?_getD, List.getElem?_append_left hj, ← List.getD_eq_getElem?_getD]
theorem mk_at1 (ts : List Tm) : (ts ++ kmk2).getD ts.length .nul = ⟨-71, ByteArray.empty, 0, 0, []⟩ := by
  rw [List.getD_eq_getElem?_getD, List.getElem?_append_right (Nat.le_refl _), Nat.sub_self]; rfl
theorem mk_at2 (ts : List Tm) : (ts ++ kmk2).getD (ts.length + 1) .nul = ⟨-72, ByteArray.empty, 0, 0, []⟩ := by
  rw [List.getD_eq_getElem?_getD, List.getElem?_append_right (by omega), show ts.length + 1 - ts.length = 1 by omega]; rfl
/-- It is read as a list of arguments. -/
theorem IsKt.isTm {W : World} : ∀ {F : Nat → Prop} {d : Nat} {ts : List Tm} {v : Value}, IsKt W F d ts v → IsTr W F d ts v := by
  intro F d
  induction d with
  | zero =>
    intro ts v h
    obtain ⟨g, c, rfl, h1, h2, _⟩ := h.blk
    obtain ⟨rfl, _⟩ := h
    exact ⟨rfl, some ⟨g, 0, none⟩, c, rfl, h2, fun e => (by cases e)⟩
  | succ d ih =>
    intro ts v h
    obtain ⟨V, h1, _, _, hF, h5⟩ := h
    obtain ⟨g, c, e, h2, h3, _, _, h6, cur, m, h7⟩ := h1.head
    subst e
    refine ⟨some ⟨g, 0, none⟩, c, rfl, by omega, h3, fun e => (by cases e), fun hp => ⟨g, 0, rfl, hF g rfl, (Array.getElem?_eq_some_iff.1 h7).1, fun j hj => ⟨V j, fun k x hx => ?_, ih (h5 j hj)⟩⟩⟩
    have hk : k < 5 := (List.getElem?_eq_some_iff.1 hx).1
    have e2 := tmsC_at (V := V) (ts := ts ++ kmk2) (j := j) (k := k) (by simp; omega) hk
    rw [mk_at hj, hx] at e2
    rw [show 0 + j * 5 + k = j * 5 + k by omega, h6 (j * 5 + k) (by omega), e2]
/-- Copies of terms in a row of the call's own. -/
structure OwnKt (W : World) (B d : Nat) (v : Value) (ts : List Tm) (V : Nat → Value) : Prop where
  row : W.ownsRow B 52 5 v ts.length (tmsC ts V)
  each : ∀ j, j < ts.length → IsKt W (fun b => B ≤ b ∧ v.ownBlock ≠ some b) d (ts.getD j .nul).args (V j)
theorem OwnKt.nil (W : World) (B d : Nat) : OwnKt W B d (.slice none 0 0) [] (fun _ => undef) := ⟨World.ownsRow_nil _ _ _ _, fun j hj => by simp at hj⟩
theorem OwnKt.shape {W : World} {B d : Nat} {v : Value} {ts : List Tm} {V : Nat → Value} (h : OwnKt W B d v ts V) : ∃ a c, v = .slice a ts.length c := by
  rcases h.row.2 with ⟨rfl, h0⟩ | ⟨g, cap, cur, rfl, _⟩
  · exact ⟨none, 0, by rw [h0]⟩
  · exact ⟨_, cap, rfl⟩
/-- A block of another type is written. -/
theorem OwnKt.grown {W W' : World} {B d : Nat} {v : Value} {ts : List Tm} {V : Nat → Value} {row : Option Nat} (h : OwnKt W B d v ts V) (hg : W.grownBy W' row) (hr : ∀ b, row = some b → ¬ TB W b) : OwnKt W' B d v ts V := by
  refine ⟨h.row.kept hg ?_, fun j hj => (h.each j hj).grown hg (fun b _ hT e => hr b e hT)⟩
  rcases h.row.2 with ⟨rfl, _⟩ | ⟨g', cap, cur, rfl, _, hgg, _⟩
  · exact Or.inl rfl
  · exact Or.inr fun e => hr g' e.symm ⟨_, _, hgg⟩
theorem OwnKt.below {W W' : World} {B d : Nat} {v : Value} {ts : List Tm} {V : Nat → Value} (h : OwnKt W B d v ts V) (hb : Below W.heap.size W W') : OwnKt W' B d v ts V :=
  h.grown (row := none) ⟨hb.os, hb.tape, hb.output, hb.size, fun k hk _ => hb.block k hk⟩ (fun b e => by cases e)
theorem OwnKt.tb {W : World} {B d : Nat} {v : Value} {ts : List Tm} {V : Nat → Value} (h : OwnKt W B d v ts V) {b : Nat} (hb : v.ownBlock = some b) : B ≤ b ∧ TB W b := by
  rcases h.row.2 with ⟨rfl, _⟩ | ⟨g', cap, cur, rfl, hBg, hgg, _⟩
  · cases hb
  · simp only [Value.ownBlock, Option.some.injEq] at hb
    subst hb
    exact ⟨hBg, _, _, hgg⟩
/-- The row, with a copy put behind it. -/
theorem OwnKt.snoc {W W' : World} {B B1 d : Nat} {v v' u : Value} {ts : List Tm} {t : Tm} {V : Nat → Value} (h : OwnKt W B d v ts V) (ht : IsKt W (fun b => B1 ≤ b) d t.args u) (h1 : ∀ b, v.ownBlock = some b → b < B1) (hBB : B ≤ B1)
    (hr : W'.ownsRow B 52 5 v' (ts.length + 1) (tmsC ts V ++ tmC t u)) (hg : W.grownBy W' v.ownBlock) (hv : v'.ownBlock = v.ownBlock ∨ v'.ownBlock = some W.heap.size) : OwnKt W' B d v' (ts ++ [t]) (fun j => if j = ts.length then u else V j) := by
  have hne : ∀ b, v.ownBlock ≠ some b → TB W b → v'.ownBlock ≠ some b := fun b h2 hT e => by
    rcases hv with hv | hv
    · exact h2 (hv ▸ e)
    · have := hT.lt
      rw [hv] at e
      injection e with e
      omega
  refine ⟨by rw [tmsC_snoc, List.length_append]; exact hr, fun j hj => ?_⟩
  rw [List.length_append] at hj
  by_cases e : j = ts.length
  · subst e
    rw [List.getD_eq_getElem?_getD, List.getElem?_append_right (Nat.le_refl _), Nat.sub_self]
    show IsKt W' _ d t.args (if ts.length = ts.length then u else V ts.length)
    rw [if_pos rfl]
    refine ht.keep (fun b hF hT => hg.block b hT.lt (fun e => ?_)) (fun b hF hT => ⟨by omega, hne b (fun e => ?_) hT⟩)
    · have := h1 b e.symm; omega
    · have := h1 b e; omega
  · have hjl : j < ts.length := by simp at hj; omega
    rw [List.getD_eq_getElem?_getD, List.getElem?_append_left hjl, ← List.getD_eq_getElem?_getD]
    simp only [if_neg e]
    exact (h.each j hjl).keep (fun b hF hT => hg.block b hT.lt (fun e => hF.2 e.symm)) (fun b hF hT => ⟨hF.1, hne b hF.2 hT⟩)
/-- The row with its marks, but for them. -/
theorem OwnKt.marks {W W' : World} {B d : Nat} {v v' : Value} {ts : List Tm} {V : Nat → Value} (h : OwnKt W B d v ts V)
    (hr : W'.ownsRow B 52 5 v' (ts.length + 2) (tmsC ts V ++ (tmC ⟨-71, ByteArray.empty, 0, 0, []⟩ (.slice none 0 0) ++ tmC ⟨-72, ByteArray.empty, 0, 0, []⟩ (.slice none 0 0)))) (hg : W.grownBy W' v.ownBlock) (hv : v'.ownBlock = v.ownBlock ∨ v'.ownBlock = some W.heap.size) :
    ∃ g c, v' = .slice (some ⟨g, 0, none⟩) (ts.length + 2) c ∧ B ≤ g ∧ IsKt W' (fun b => B ≤ b) (d + 1) ts (.slice (some ⟨g, 0, none⟩) ts.length c) := by
  obtain ⟨g, c, rfl, h1, h2, h3, _⟩ := owns_shape hr (by omega)
  refine ⟨g, c, rfl, h3, fun j => if j = ts.length then .slice none 0 0 else if j = ts.length + 1 then .slice none 0 0 else V j, ⟨g, c, rfl, ?_⟩, by simp, by simp, fun b hb => ?_, fun j hj => ?_⟩
  · have e : tmsC (ts ++ kmk2) (fun j => if j = ts.length then .slice none 0 0 else if j = ts.length + 1 then .slice none 0 0 else V j) = tmsC ts V ++ (tmC ⟨-71, ByteArray.empty, 0, 0, []⟩ (.slice none 0 0) ++ tmC ⟨-72, ByteArray.empty, 0, 0, []⟩ (.slice none 0 0)) := by
      have e1 := tmsC_snoc (ts := ts) (V := V) (t := ⟨-71, ByteArray.empty, 0, 0, []⟩) (u := .slice none 0 0)
      have e2 := tmsC_snoc (ts := ts ++ [⟨-71, ByteArray.empty, 0, 0, []⟩]) (V := fun j => if j = ts.length then .slice none 0 0 else V j) (t := ⟨-72, ByteArray.empty, 0, 0, []⟩) (u := .slice none 0 0)
      rw [e1] at e2
      rw [← List.append_assoc, ← e2, List.append_assoc, List.length_append]
      show tmsC (ts ++ kmk2) _ = tmsC (ts ++ kmk2) _
      congr 1
      funext j
      simp only [List.length_cons, List.length_nil]
      by_cases q : j = ts.length
      · rw [if_pos q, if_neg (by omega), if_pos q]
      · rw [if_neg q]
        by_cases q2 : j = ts.length + 1
        · rw [if_pos q2, if_pos (by omega)]
        · rw [if_neg q2, if_neg (by omega), if_neg q]
    rw [e]
    exact owns_mono hr (Nat.zero_le _)
  · cases hb; exact h3
  · have e1 : ¬ j = ts.length := by omega
    have e2 : ¬ j = ts.length + 1 := by omega
    simp only [if_neg e1, if_neg e2]
    exact (h.each j hj).keep (fun b hF hT => hg.block b hT.lt (fun e => hF.2 e.symm)) (fun b hF _ => hF.1)
end Go.Proofs.YtfhfobikbfbajaaGreatDoor

namespace Go.Proofs.YtfhfobikbfbajaaGreatDoor
open Go.RowKit Go.Maps

section
variable {ops : Array Oper} {rest : List Oper} {o : Oper} {a : Act} {Q : Exit → Act → World → Prop} {w : World}
theorem run_storeP (w : World) (b f : Nat) (ty : TypeId) (v : Value) (ht : w.there b f 1) (hi : (Tryz.prog.info? ty).map (·.size) = some 1) (h1 : v.oneCell' = true) : (Instr.storeAt ty (.pointer (some ⟨b, f, none⟩)) v).run Tryz.prog w = .ok () (w.setCells b f [v]) := by
  have := run_storeCells_cells (P := Tryz.prog) b f [v] 0 w (fun j hj => by simpa using (ht j (by simpa using hj)).1) (fun j hj => by simpa using (ht j (by simpa using hj)).2) (fun u hu => by simp at hu; subst hu; exact h1)
  have hc : v.cells = #[v] := by cases v <;> first | rfl | cases h1
  simp only [Instr.storeAt, Instr.sureAddr, Sem.run_bind, Sem.run_pure, Result.andThen_ok]
  cases hq : Tryz.prog.info? ty with
  | none => simp [hq] at hi
  | some i =>
    have hs : i.size = 1 := by simpa [hq] using hi
    simp only [Nat.add_zero] at this
    simp [storeVar, sizeOf, typeInfo, hq, hc, hs, this]
/-- One cell of a block is written. -/
theorem wpList_setP (hgd : o.guard = none) (x y : Operand) (t : TypeId) (ho : o.op = .store t x y) {g f : Nat} {t0 : TypeId} {cs : List Value} {v : Value} (hx : a.eval x = .pointer (some ⟨g, f, none⟩)) (hy : a.eval y = v) (h : Arr w g t0 cs) (hf : f + 1 ≤ cs.length) (hi : (Tryz.prog.info? t).map (·.size) = some 1) (h1 : v.oneCell' = true)
    (hk : ∀ w', Arr w' g t0 (cs.set f v) → w.grownBy w' (some g) → wpList Tryz.prog ops Q rest (a.put o.dst undef) w') : wpList Tryz.prog ops Q (o :: rest) a w := by
  obtain ⟨a1, b1⟩ := jarr_puts [v] cs f w h
  refine wpList_plain hgd fun K hK => ?_
  unfold Oper.wp execOp
  simp only [ho, hx, hy, Sem.run_bind, run_storeP w g f t v (jarr_there h hf) hi h1, Result.andThen_ok, Sem.run_pure]
  exact hK _ _ (hk _ a1 b1)
theorem tm_sl1 (t : Tm) (ad : Option Addr) (n c : Nat) (W : World) : (Instr.buildSlice 50 1 #[(0, .agg (tmC t (.slice ad n c)).toArray)]).run Tryz.prog W = .ok (.slice (some ⟨W.heap.size, 0, none⟩) 1 1) (W.alloc (.cells (tmC t (.slice ad n c)).toArray 52)) := by kernel_rfl
theorem wpList_tmS1 (hgd : o.guard = none) (x : Operand) (ho : o.op = .buildSlice 50 1 #[(0, x)]) {t : Tm} {ad : Option Addr} {n c : Nat} (hx : a.eval x = .agg (tmC t (.slice ad n c)).toArray)
    (hk : wpList Tryz.prog ops Q rest (a.put o.dst (.slice (some ⟨w.heap.size, 0, none⟩) 1 1)) (w.alloc (.cells (tmC t (.slice ad n c)).toArray 52))) : wpList Tryz.prog ops Q (o :: rest) a w := by
  refine wpList_plain hgd fun K hK => ?_
  unfold Oper.wp execOp
  simp only [ho, List.map_toArray, List.map_cons, List.map_nil, hx, Sem.run_bind, tm_sl1, Result.andThen_ok, Sem.run_pure]
  exact hK _ _ hk
def mkT (k : Int) : List Value := tmC ⟨k, ByteArray.empty, 0, 0, []⟩ (.slice none 0 0)
theorem tm_sl2 (W : World) : (Instr.buildSlice 50 2 #[(0, .agg (mkT (-71)).toArray), (1, .agg (mkT (-72)).toArray)]).run Tryz.prog W = .ok (.slice (some ⟨W.heap.size, 0, none⟩) 2 2) (W.alloc (.cells (mkT (-71) ++ mkT (-72)).toArray 52)) := by kernel_rfl
theorem wpList_tmS2 (hgd : o.guard = none) (x y : Operand) (ho : o.op = .buildSlice 50 2 #[(0, x), (1, y)]) (hx : a.eval x = .agg (mkT (-71)).toArray) (hy : a.eval y = .agg (mkT (-72)).toArray)
    (hk : wpList Tryz.prog ops Q rest (a.put o.dst (.slice (some ⟨w.heap.size, 0, none⟩) 2 2)) (w.alloc (.cells (mkT (-71) ++ mkT (-72)).toArray 52))) : wpList Tryz.prog ops Q (o :: rest) a w := by
  refine wpList_plain hgd fun K hK => ?_
  unfold Oper.wp execOp
  simp only [ho, List.map_toArray, List.map_cons, List.map_nil, hx, hy, Sem.run_bind, tm_sl2, Result.andThen_ok, Sem.run_pure]
  exact hK _ _ hk
end
theorem elemTms : Tryz.prog.underlying 50 = some (.slice (Tryz.prog.elem 50)) := by kernel_rfl
theorem sizeTms (W : World) : (sizeOf (Tryz.prog.elem 50)).run Tryz.prog W = .ok 5 W := by kernel_rfl
theorem tms_len (xs : List Tm) : xs.length ≤ tmsW xs := by
  induction xs with
  | nil => exact Nat.zero_le _
  | cons a xs ih => rw [tmsW_cons, List.length_cons]; omega
theorem tk_snoc {xs : List Tm} {j : Nat} (h : j < xs.length) : xs.take (j + 1) = xs.take j ++ [xs.getD j .nul] := by
  rw [List.take_succ_eq_append_getElem h, List.getD_eq_getElem?_getD, List.getElem?_eq_getElem h]
  rfl
theorem slice_hTm (b o n c m : Nat) (hm : m ≤ c) (W : World) (hm2 : m ≤ 9223372036854775807) : (Instr.sliceAt 50 (.slice (some ⟨b, o, none⟩) n c) none (some (.int .i64 (m : Int))) none).run Tryz.prog W = .ok (.slice (some ⟨b, o, none⟩) m c) W := by
  rw [run_sliceAt_slice W _ _ _ _ _ elemTms, run_slice_h W _ (some ⟨b, o, none⟩) n c elemTms .i64 m (by omega) (by omega), sizeTms]
  simp [Result.andThen, sliced]
  intro _
  rfl
set_option maxRecDepth 100000 in
set_option maxHeartbeats 4000000 in
/-- A term in memory of its own, with marks. -/
theorem cterm_calls : ∀ (d : Nat) (w : World) (t : Tm) (u : Value), IsTr w anyB d t.args u → tmW t ≤ 100000000 → Calls Tryz.prog 36 #[.agg (tmC t u).toArray] w fun e w' => ∃ v, e = .returned (.agg (tmC t v).toArray) ∧ Hid (IsKt w' (fun b => w.heap.size ≤ b) (d + 1) t.args v ∧ Below w.heap.size w w') := by
  intro d
  induction d using Nat.strongRecOn with
  | ind d ih =>
    intro w t u ht hW
    obtain ⟨a, c, hu, hlc, hmc⟩ := ht.shape
    have HT := hide ht
    have HIH := hide ih
    rw [tmW_eq] at hW
    obtain ⟨k, x, n, m, ag⟩ := t
    subst hu
    have HW : Hid (tmsW ag ≤ 100000000) := hide (by unfold tmsW; have : 64 + 4 * x.size + (ag.map fun a => tmW a + 1).sum ≤ 100000000 := hW; omega)
    have hmq : (ag.length : Int) ≤ 9223372036854775807 := by have : ag.length ≤ c := hlc; omega
    clear ih ht hlc hmc hW
    show Calls Tryz.prog 36 #[.agg (tmC ⟨k, x, n, m, ag⟩ (.slice a ag.length c)).toArray] w _
    go_enter Tryz.func36, Tryz.ntmps36
    go_wp2_with (first
      | (refine wpList_boxJ rfl 52 (.tmp 0) rfl (cs := (tmC ⟨k, x, n, m, ag⟩ (.slice a ag.length c))) rfl ?_; intro w2 hA2 hb2 hs2; have HA2 := hide hA2; have HB2 := hide hb2; clear hA2 hb2 hs2)
      | (refine wpList_allocJ rfl 52 rfl infoTmz ?_; have HA3 := hide (Arr.new w2 zTm 52); have HB23 := hide (jalloc_below w2 (.cells zTm.toArray 52)); obtain ⟨w3, hw3⟩ : ∃ x, x = w2.alloc (.cells zTm.toArray 52) := ⟨_, rfl⟩; rw [← hw3] at HA3 HB23 ⊢; clear hw3)
      | fail)
    have HA23 := hide (HA2.out.below HB23.out)
    have HB3 := hide (below_then HB2.out HB23.out)
    go_loopw [3, 4] (fun lv iv wr => ∃ (j : Nat) (V : Nat → Value), iv = .int .i64 (j : Int) ∧ j ≤ ag.length ∧ Hid (OwnKt wr w3.heap.size d lv (ag.take j) V ∧ Below w3.heap.size w3 wr)) (fun _ iv _ => ag.length - (intOf iv).toNat)
    case atStart => exact ⟨0, fun _ => undef, rfl, Nat.zero_le _, OwnKt.nil _ _ _, Below.refl _ _⟩
    case round =>
      obtain ⟨j, V, rfl, hjq, HJ⟩ := hrel
      have c4 := (tmC_arr (HA23.out.below HJ.out.2)).2.2.2.2
      by_cases hlt : j < ag.length
      · have hlti : (j : Int) < (ag.length : Int) := by omega
        obtain ⟨b, o, c', e0, u2, hv, hD, hr, hi⟩ := HT.out.at hlt
        cases hv
        have HB4 := hide (below_then HB3.out HJ.out.2)
        have hrr := rangeAt_below hr HB4.out
        have HWL : Hid (ag.length ≤ 100000000) := hide (Nat.le_trans (tms_len ag) HW.out)
        have HIC := hide (fun W2 (h : Below w.heap.size w W2) => HIH.out e0 (by omega) W2 (ag.getD j .nul) u2 (hi.below h) (by have := tmW_at hlt; have := HW.out; omega))
        have HTK := hide (tk_snoc hlt)
        obtain ⟨T2, hT2⟩ : ∃ t2, t2 = ag.getD j .nul := ⟨_, rfl⟩
        rw [← hT2] at hrr HIC HTK
        rw [← hD] at HIC
        have hwj : IntKind.i64.wrap ((j : Int) + 1) = ((j + 1 : Nat) : Int) := by rw [IntKind.wrap_i64]; omega
        clear hr hi hT2 hD HIH HT
        go_wp2_with (first
          | (refine wpList_loadJ rfl 52 (.tmp 16) rfl b (o + j * 5) rfl (tmC T2 u2) _ hrr Tryz.underlying52 rfl (infoTms _ _) ?_)
          | fail)
        refine (HIC.out _ HB4.out).mono ?_
        rintro e w7 ⟨v7, rfl, HX⟩
        obtain ⟨g7, c7, rfl, _, _, _, _⟩ := HX.out.1.blk
        clear hrr HIC c4
        have HO7 := hide ((HJ.out.1.below HX.out.2).below (jalloc_below w7 (.cells (tmC T2 (.slice (some ⟨g7, 0, none⟩) T2.args.length c7)).toArray 52)))
        have HK7 := hide (HX.out.1.below (jalloc_below w7 (.cells (tmC T2 (.slice (some ⟨g7, 0, none⟩) T2.args.length c7)).toArray 52)))
        have HB7 := hide (below_then HJ.out.2 (below_then HX.out.2 (jalloc_below w7 (.cells (tmC T2 (.slice (some ⟨g7, 0, none⟩) T2.args.length c7)).toArray 52))))
        have HA7 := hide (Arr.new w7 (tmC T2 (.slice (some ⟨g7, 0, none⟩) T2.args.length c7)) 52)
        go_wp2_with (first
          | (refine wpList_tmS1 rfl (.tmp 18) rfl rfl ?_)
          | (at_builtin; refine wpList_appRow (B := w3.heap.size) (t := 52) (s := 5) Tryz.underlying50 infoTmz (by rfl) (by decide) (by decide) rfl (.tmp 12) (.tmp 19) rfl (v := u3) (k := (ag.take j).length) (cs := tmsC (ag.take j) V) rfl HO7.out.row rfl (m := 1) rfl (ds := tmC T2 (.slice (some ⟨g7, 0, none⟩) T2.args.length c7)) rfl (fun j u hu => by rw [Addr.add_lit]; exact HA7.out.rangeJ j u hu) (tmC_one T2 rfl) (by have := HWL.out; rw [List.length_take]; omega) HB7.out.size ?_; intro v9 w9 q1 q2 q3; have HO9 := hide (OwnKt.snoc (B1 := wr.heap.size) HO7.out HK7.out (fun b hb => (HJ.out.1.tb hb).2.lt) HJ.out.2.size q1 q2 q3); have HB9 := hide (HB7.out.grown q2 HB7.out.size (fun b hb => (HJ.out.1.tb hb).1)); clear q1 q2 q3)
          | fail)
        go_wp2
        go_roundw
        case rel => exact ⟨j + 1, _, by go_num, by omega, by rw [HTK.out]; exact HO9.out, HB9.out⟩
        case measure => simp [intOf]; omega
      · have hlti : ¬ (j : Int) < (ag.length : Int) := by omega
        obtain rfl : j = ag.length := by omega
        have HO : Hid (OwnKt wr w3.heap.size d u3 ag V) := hide (by have := HJ.out.1; rwa [List.take_length] at this)
        have HWL : Hid (ag.length ≤ 100000000) := hide (Nat.le_trans (tms_len ag) HW.out)
        have HO7 := hide (HO.out.below (jalloc_below wr (.cells (mkT (-71) ++ mkT (-72)).toArray 52)))
        have HB7 := hide (below_then HJ.out.2 (jalloc_below wr (.cells (mkT (-71) ++ mkT (-72)).toArray 52)))
        have HA7 := hide (Arr.new wr (mkT (-71) ++ mkT (-72)) 52)
        go_wp2_with (first
          | (refine wpList_bld1 rfl 52 0 (.const (.int .i64 (-71))) rfl (vx := .int .i64 (-71)) (v := .agg (mkT (-71)).toArray) rfl (tm_bld (-71)) ?_)
          | (refine wpList_bld1 rfl 52 0 (.const (.int .i64 (-72))) rfl (vx := .int .i64 (-72)) (v := .agg (mkT (-72)).toArray) rfl (tm_bld (-72)) ?_)
          | (refine wpList_tmS2 rfl (.tmp 22) (.tmp 23) rfl rfl rfl ?_)
          | (at_builtin; refine wpList_appRow (B := w3.heap.size) (t := 52) (s := 5) Tryz.underlying50 infoTmz (by rfl) (by decide) (by decide) rfl (.tmp 21) (.tmp 24) rfl (v := u3) (k := ag.length) (cs := tmsC ag V) rfl HO7.out.row rfl (m := 2) rfl (ds := mkT (-71) ++ mkT (-72)) rfl (fun j u hu => by rw [Addr.add_lit]; exact HA7.out.rangeJ j u hu) (fun u hu => by rcases List.mem_append.1 hu with h | h <;> exact tmC_one _ rfl u h) (by have := HWL.out; omega) HB7.out.size ?_; intro v9 w9 q1 q2 q3; obtain ⟨g9, c9, rfl, hg9, hK9⟩ := HO7.out.marks q1 q2 q3; have HK9 := hide hK9; have HG9 := hide hg9; have HB9 := hide (HB7.out.grown q2 HB7.out.size (fun b hb => (HO.out.tb hb).1)); have hc9 : ag.length ≤ c9 := (by obtain ⟨_, _, e, h1, _⟩ := hK9.blk; injection e with _ _ e; omega); have hc99 : c9 ≤ 9223372036854775807 := (by obtain ⟨_, _, e, _, h1, _⟩ := hK9.blk; injection e with _ _ e; omega); have hsl := fun W2 => slice_hTm g9 0 (ag.length + 2) c9 ag.length hc9 W2 (by omega); have HA9 := hide (HA23.out.below HB9.out); have c9' := (tmC_arr HA9.out).2.2.2.2; clear q1 q2 q3 hK9 hg9 hc9 hc99)
          | (refine wpList_setP rfl (.tmp 31) (.tmp 30) 50 rfl (v := .slice (some ⟨g9, 0, none⟩) ag.length c9) rfl rfl HA9.out (by simp [tmC]) (by kernel_rfl) rfl ?_; intro wx hAx hgx; have HAx : Hid (Arr wx w.heap.size 52 (tmC ⟨k, x, n, m, ag⟩ (.slice (some ⟨g9, 0, none⟩) ag.length c9))) := hide hAx; have HKx := hide (HK9.out.grown hgx (fun b hF hT e => by injection e with e; have hF : w3.heap.size ≤ b := hF; have := HB23.out.size; have := HA2.out.lt; omega)); have HA3x := hide ((HA3.out.below HB9.out).keep (hgx.block _ ((HA3.out.below HB9.out).lt) (fun e => by injection e with e; have := HA2.out.lt; omega))); have HBx := hide ((below_then HB3.out HB9.out).grown hgx (below_then HB3.out HB9.out).size (fun k hk => by cases hk; exact Nat.le_refl _)); clear hAx hgx c9' hsl)
          | (refine wpList_loadJ rfl 52 (.tmp 1) rfl w.heap.size 0 rfl (tmC ⟨k, x, n, m, ag⟩ (.slice (some ⟨g9, 0, none⟩) ag.length c9)) _ HAx.out.rangeJ Tryz.underlying52 rfl (infoTms _ _) ?_)
          | (refine wpList_storeJ rfl (.tmp 2) (.tmp 32) 52 rfl rfl rfl HA3x.out (infoTms _ _) rfl (tmC_one _ rfl) ?_; intro wy hAy hgy; have HAy := hide hAy; have HKy := hide (HKx.out.grown hgy (fun b hF hT e => by injection e with e; have hF : w3.heap.size ≤ b := hF; have := HA3.out.lt; omega)); have HBy := hide (HBx.out.grown hgy HBx.out.size (fun k hk => by cases hk; exact HB2.out.size)); clear hAy hgy)
          | fail)
        refine bodyPost_ret (results_tm (p := 2) rfl rfl HAy.out) rfl ?_
        exact ⟨_, rfl, hide ⟨HKy.out.mono (fun b hb _ => by have := HB3.out.size; omega), HBy.out⟩⟩
end Go.Proofs.YtfhfobikbfbajaaGreatDoor

namespace Go.Proofs.YtfhfobikbfbajaaGreatDoor
open Go.RowKit Go.Maps

section
variable {ops : Array Oper} {rest : List Oper} {o : Oper} {a : Act} {Q : Exit → Act → World → Prop} {w : World}
/-- A slice that is read, appended to nothing. -/
theorem wpList_appNew {st t : TypeId} {z : Value} {s by' : Nat} (hU : Tryz.prog.underlying st = some (.slice t)) (hI : (Tryz.prog.info? t).map (fun i => (i.zero, i.size, i.bytes)) = some (some z, s, by')) (hzs : z.cells.size = s) (hs0 : 0 < s) (hby : by' ≤ 1000)
    (hgd : o.guard = none) (x y : Operand) (ho : o.op = .call { callee := .builtin .append, args := #[x, y], argTypes := #[st, st] }) {B : Nat} {ds : List Value} {ad : Option Addr} {n c : Nat} (hx : a.eval x = .slice none 0 0) (hy : a.eval y = .slice ad n c) (hz : ad = none → c = 0) (hnc : n ≤ c) (hdl : ds.length = n * s)
    (hm : ∀ j u, ds[j]? = some u → ∃ b o, ad = some ⟨b, o, none⟩ ∧ w.cell? ⟨b, o + j, none⟩ = some u) (h1 : ∀ u ∈ ds, u.oneCell' = true) (hsp : 0 < n → ∃ b o, ad = some ⟨b, o, none⟩) (hl : n ≤ 1000000000) (hB : B ≤ w.heap.size)
    (hk : ∀ v' w', w'.ownsRow B t s v' n ds → Below w.heap.size w w' → wpList Tryz.prog ops Q rest (a.put o.dst v') w') : wpList Tryz.prog ops Q (o :: rest) a w := by
  have hN : w.ownsRow B t s (.slice none 0 0) 0 [] := ⟨by rw [Nat.zero_mul]; rfl, Or.inl ⟨rfl, rfl⟩⟩
  cases ad with
  | none =>
    obtain rfl := hz rfl
    obtain rfl : n = 0 := by omega
    obtain rfl : ds = [] := List.eq_nil_of_length_eq_zero (by rw [hdl, Nat.zero_mul])
    cases hq : Tryz.prog.info? t with
    | none => simp [hq] at hI
    | some i => exact wpList_append_own_none hgd x y st ho B t i s hU hq (.slice none 0 0) 0 [] hx hN hy (hk _ _ hN (Below.refl _ _))
  | some ad =>
    refine wpList_appRow hU hI hzs hs0 hby hgd x y ho hx hN hy (m := n) rfl hdl (fun j u hu => ?_) h1 (by omega) hB fun v' w' q1 q2 q3 => ?_
    · obtain ⟨b, o, e, hc⟩ := hm j u hu
      cases e
      rw [Addr.add_lit]
      exact hc
    · rw [List.nil_append, Nat.zero_add] at q1
      exact hk v' w' q1 ((Below.refl _ _).grown q2 (Nat.le_refl _) (fun k hk => by cases hk))
end
set_option maxRecDepth 100000 in
set_option maxHeartbeats 4000000 in
theorem klaidAny_calls {w W : World} {v : Value} {ks : List (List UInt8)} (hK : IsKs w v ks) (hw : Below w.heap.size w W) (hn : ks.length ≤ 1000) : Calls Tryz.prog 16 #[v] W fun e W' => ∃ g c, e = .returned (.slice (some ⟨g, 0, none⟩) ks.length c) ∧ Hid (W'.ownsRow W.heap.size 32 32 (.slice (some ⟨g, 0, none⟩) (ks.length + 2) c) (ks.length + 2) (kysC ks ++ kysC [kmA, kmB]) ∧ Below W.heap.size W W') := by
  obtain ⟨a, c, rfl, hlc, hmc, hz, hcc, h32⟩ := hK
  have HZ := hide hz
  have HNC := hide hlc
  have HCC := hide hcc
  have HCL : Hid (∀ j u, (kysC ks)[j]? = some u → ∃ b o, a = some ⟨b, o, none⟩ ∧ W.cell? ⟨b, o + j, none⟩ = some u) := hide (fun j u hu => by
    have hp : 0 < ks.length := by
      rcases Nat.eq_zero_or_pos ks.length with h | h
      · rw [List.eq_nil_of_length_eq_zero h] at hu
        simp [kysC] at hu
      · exact h
    obtain ⟨b, o, rfl, hcl⟩ := HCC.out hp
    exact ⟨b, o, rfl, kys_at h32 (fun i hi => rangeAt_below (hcl i hi) hw) j u hu⟩)
  have HSP : Hid (0 < ks.length → ∃ b o, a = some ⟨b, o, none⟩) := hide (fun hp => by obtain ⟨b, o, e, _⟩ := HCC.out hp; exact ⟨b, o, e⟩)
  have H32 := hide h32
  have HN := hide hn
  clear hcc h32 hw hn hlc hmc hz
  go_enter Tryz.func16, Tryz.ntmps16
  go_wp2_with (first
    | (at_builtin; refine wpList_appNew (B := W.heap.size) (t := 32) (s := 32) Tryz.underlying26 infoKyz (by rfl) (by decide) (by decide) rfl (.tmp 4) (.tmp 5) rfl (ds := kysC ks) (ad := a) (n := ks.length) (c := c) rfl rfl HZ.out HNC.out (kysC_len H32.out) HCL.out kys_one HSP.out (by have := HN.out; omega) (Nat.le_refl _) ?_; intro v6 w6 q1 q2; have HQ6 := hide q1; have HB6 := hide q2; clear q1 q2)
    | (refine wpList_bldK rfl (.const (.int .u8 201)) (.const (.int .u8 1)) rfl rfl rfl bldA ?_)
    | (refine wpList_bldK rfl (.const (.int .u8 202)) (.const (.int .u8 2)) rfl rfl rfl bldB ?_)
    | (refine wpList_bldK2 rfl (.tmp 8) (.tmp 9) rfl rfl rfl ?_)
    | (at_builtin; refine wpList_appRow (B := W.heap.size) (t := 32) (s := 32) Tryz.underlying26 infoKyz (by rfl) (by decide) (by decide) rfl (.tmp 7) (.tmp 10) rfl (v := v6) (k := ks.length) (cs := kysC ks) rfl (owns_below HQ6.out (jalloc_below w6 (.cells (kysC [kmA, kmB]).toArray 32))) rfl (m := 2) rfl (ds := kysC [kmA, kmB]) (kysC_len kmAB_len) (fun j u hu => by rw [Addr.add_lit]; exact (Arr.new w6 (kysC [kmA, kmB]) 32).rangeJ j u hu) kys_one (by have := HN.out; omega) (by have := HB6.out.size; simp; omega) ?_; intro v8 w8 q1 q2 _; have HQ8 := hide q1; have HB8 := hide ((HB6.out.trans ((jalloc_below w6 (.cells (kysC [kmA, kmB]).toArray 32)).mono HB6.out.size)).grown q2 (by have := HB6.out.size; simp; omega) (fun k hk => (World.ownsRow.lt HQ6.out k hk).1)); obtain ⟨g8, c8, hv8, _, hc8, hc9⟩ := rowK_at q1 (by omega); subst hv8; have hsl := fun W2 => slice_hK g8 0 (ks.length + 2) c8 ks.length (by omega) W2 (by omega); clear q1 q2)
    | fail)
  go_ret
  exact ⟨_, _, rfl, hide ⟨HQ8.out, HB8.out⟩⟩
/-- Copies with marks: texts, outputs, a task. -/
def mkSt : List ByteArray := [⟨#[47, 47, 49]⟩, ⟨#[47, 47, 50]⟩]
def zT0 : Tm := ⟨0, ByteArray.empty, 0, 0, []⟩
def mkO : List (ByteArray × Tm) := [(⟨#[47, 47, 51]⟩, zT0), (⟨#[47, 47, 52]⟩, zT0)]
def IsKo (W : World) (B d : Nat) (os : List (ByteArray × Tm)) (v : Value) : Prop := ∃ V : Nat → Value, Rk W B 54 6 v os.length (ousC (os ++ mkO) V) ∧ ∀ j, j < os.length → IsKt W anyB d (os.getD j ou0).2.args (V j)
def IsKa (W : World) (B d : Nat) (v : Value) (t : Tsk) : Prop := ∃ vi vo, v = .agg (tsC t.name t.budget vi vo).toArray ∧ Rk W B 9 1 vi t.ins.length (sV (t.ins ++ mkSt)) ∧ IsKo W B d t.outs vo
theorem IsKo.below {W W' : World} {B d : Nat} {os : List (ByteArray × Tm)} {v : Value} (h : IsKo W B d os v) (hb : Below W.heap.size W W') : IsKo W' B d os v := by
  obtain ⟨V, h1, h2⟩ := h
  exact ⟨V, h1.below hb, fun j hj => (h2 j hj).below hb⟩
theorem IsKo.mono {W : World} {B B' d : Nat} {os : List (ByteArray × Tm)} {v : Value} (h : IsKo W B d os v) (hb : B' ≤ B) : IsKo W B' d os v := by
  obtain ⟨V, h1, h2⟩ := h
  exact ⟨V, h1.mono hb, h2⟩
theorem IsKa.below {W W' : World} {B d : Nat} {v : Value} {t : Tsk} (h : IsKa W B d v t) (hb : Below W.heap.size W W') : IsKa W' B d v t := by
  obtain ⟨vi, vo, e, h1, h2⟩ := h
  exact ⟨vi, vo, e, h1.below hb, h2.below hb⟩
theorem ou_at {os : List (ByteArray × Tm)} {j : Nat} (hj : j < os.length) : (os ++ mkO).getD j ou0 = os.getD j ou0 := by
  rw [List.getD_eq_getElem?_getD, List.getElem?_append_left hj, ← List.getD_eq_getElem?_getD]
theorem IsKo.isOu {W : World} {B d : Nat} {os : List (ByteArray × Tm)} {v : Value} (h : IsKo W B d os v) : IsOu W d v os := by
  obtain ⟨V, h1, h5⟩ := h
  obtain ⟨g, c, rfl, h2, h3, _, _, h6, _⟩ := h1.head
  refine ⟨some ⟨g, 0, none⟩, c, rfl, by omega, h3, fun e => (by cases e), fun hp => ⟨g, 0, rfl, fun j hj => ⟨V j, fun k x hx => ?_, (h5 j hj).isTm⟩⟩⟩
  have hk : k < 6 := (List.getElem?_eq_some_iff.1 hx).1
  have e2 := ousC_at (V := V) (os := os ++ mkO) (j := j) (k := k) (by simp; omega) hk
  rw [ou_at hj, hx] at e2
  rw [show 0 + j * 6 + k = j * 6 + k by omega, h6 (j * 6 + k) (by omega), e2]
theorem rkS_isS {W : World} {B : Nat} {v : Value} {l : List ByteArray} (h : Rk W B 9 1 v l.length (sV (l ++ mkSt))) : IsS W v l := by
  obtain ⟨g, c, rfl, h2, h3, _, _, h6, _⟩ := h.head
  refine ⟨some ⟨g, 0, none⟩, c, rfl, by omega, h3, fun e => (by cases e), fun hp => ⟨g, 0, rfl, fun j hj => ?_⟩⟩
  rw [Nat.zero_add, h6 j (by omega)]
  unfold sV
  rw [List.getElem?_map, List.getElem?_append_left hj, List.getD_eq_getElem?_getD, List.getElem?_eq_getElem hj]
  rfl
theorem IsKa.isTa {W : World} {B d : Nat} {v : Value} {t : Tsk} (h : IsKa W B d v t) : IsTa W d v t := by
  obtain ⟨vi, vo, e, h1, h2⟩ := h
  exact ⟨vi, vo, e, rkS_isS h1, h2.isOu⟩
end Go.Proofs.YtfhfobikbfbajaaGreatDoor
