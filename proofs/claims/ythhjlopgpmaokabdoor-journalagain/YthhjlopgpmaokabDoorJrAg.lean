/- JournalAgain: what lies in memory between its turns. -/
import Derived.Test.YthhjlopgpmaokabDoorJrWr
import Derived.Test.YthhjlopgpmaokabDoorJrRd
import Derived.Test.YthhjlopgpmaokabDoorJrBi
import Derived.Test.YthhjlopgpmaokabDoorDkC
namespace Go.Proofs.YthhjlopgpmaokabDoor
open Go.RowKit Go.Maps

/-- A slice of three ints each. -/
structure IsTris (w : World) (v : Value) (ts : List (Int × Int × Int)) : Prop where
  bd : ∀ p ∈ ts, i64I p.2.1
  val : ∃ a cap, v = .slice a ts.length cap ∧ ts.length ≤ cap ∧ cap ≤ 9223372036854775807 ∧
    (0 < ts.length → ∃ b off, a = some ⟨b, off, none⟩ ∧ ∀ j, j < ts.length → w.cell? ⟨b, off + j * 3, none⟩ = some (.int .i64 (ts.getD j (0, 0, 0)).1) ∧ w.cell? ⟨b, off + j * 3 + 1, none⟩ = some (.int .i64 (ts.getD j (0, 0, 0)).2.1) ∧ w.cell? ⟨b, off + j * 3 + 2, none⟩ = some (.int .i64 (ts.getD j (0, 0, 0)).2.2))
theorem own8_rowJ {w : World} {B : Nat} {v : Value} {xs : List Int} (h : Own8 w B v xs) : Row w B 5 v (xs.map (Value.int .u8)) := by
  have := h.1
  unfold Row
  rw [List.length_map]
  exact this
def JF.setF (e : JF) (x : Int) : JF := ⟨e.h, x, e.l⟩
theorem JF.setF_ok {e : JF} {x : Int} (h : e.Ok) (hx : i64I x) : (e.setF x).Ok := ⟨h.1, h.2, hx, h.4⟩
theorem jfV_setF {e : JF} (h : e.Ok) (x : Int) : (jfV e).set 32 (.int .i64 x) = jfV (e.setF x) := by
  unfold jfV JF.setF
  rw [List.set_append_right _ _ (by simp [h.len])]
  simp [h.len]
theorem jfsV_setF : ∀ {l : List JF} {k : Nat} {x : Int}, (∀ e ∈ l, e.Ok) → k < l.length → (jfsV l).set (k * 34 + 32) (.int .i64 x) = jfsV (l.set k ((l.getD k .nul).setF x))
  | [], k, x, _, hk => by simp at hk
  | e :: l, 0, x, h, _ => by
    show (jfV e ++ jfsV l).set (0 * 34 + 32) _ = jfV (e.setF x) ++ jfsV l
    rw [← jfV_setF (h e (by simp)), List.set_append_left _ _ (by rw [jfV_len (h e (by simp))]; omega)]
  | e :: l, k + 1, x, h, hk => by
    have ih := jfsV_setF (l := l) (k := k) (x := x) (fun y hy => h y (by simp [hy])) (by simpa using hk)
    have hl := jfV_len (h e (by simp))
    show (jfV e ++ jfsV l).set ((k + 1) * 34 + 32) _ = jfV e ++ jfsV (l.set k ((l.getD k .nul).setF x))
    rw [← ih, List.set_append_right _ _ (by rw [hl]; omega), hl]
    congr 2
    omega
theorem mem_setF {l : List JF} {k : Nat} {x : Int} (h : ∀ e ∈ l, e.Ok) (hk : k < l.length) (hx : i64I x) : ∀ e ∈ l.set k ((l.getD k .nul).setF x), e.Ok := by
  intro e he
  rcases List.mem_or_eq_of_mem_set he with he | rfl
  · exact h e he
  · exact JF.setF_ok (jf_get (P := JF.Ok) h hk) hx
/-- One reference's First is written. -/
theorem OwnJ.setF {W : World} {B g n c k : Nat} {l : List JF} {x : Int} (h : OwnJ W B (.slice (some ⟨g, 0, none⟩) n c) l) (hk : k < l.length) (hx : i64I x) :
    (∃ u, W.cell? ⟨g, k * 34 + 32, none⟩ = some u) ∧ W.frozen? ⟨g, k * 34 + 32, none⟩ = false ∧ B ≤ g ∧ (∃ cs : Array Value, W.heap[g]? = some (Obj.cells cs 73 (0, 0))) ∧ OwnJ (W.setCell ⟨g, k * 34 + 32, none⟩ (.int .i64 x)) B (.slice (some ⟨g, 0, none⟩) n c) (l.set k ((l.getD k .nul).setF x)) := by
  have hok := h.1
  have h1 := h.2
  rcases h1.2 with ⟨hv, h0⟩ | ⟨g', cap, cur, hv, hb, hg, hle, hm, hsz, ht⟩
  · cases hv
  · injection hv with e1 e2 e3
    injection e1 with e1
    injection e1 with e1
    subst e1 e2 e3
    have hl2 : l.length * 34 ≤ c * 34 := by omega
    have hcell : ∃ u, W.cell? ⟨g, k * 34 + 32, none⟩ = some u := by
      obtain ⟨u, hu⟩ : ∃ u, (jfsV l)[k * 34 + 32]? = some u := ⟨_, List.getElem?_eq_getElem (by rw [jfsV_len hok]; omega)⟩
      have := World.ownsRow.cells (g := g) h1 rfl _ u hu
      rw [Addr.add_lit, Nat.zero_add] at this
      exact ⟨u, this⟩
    refine ⟨hcell, by unfold World.frozen?; rw [hg]; simp, hb, ⟨cur, hg⟩, mem_setF hok hk hx, ?_, .inr ⟨g, c, _, by rw [List.length_set], hb, heap_setCell_same W g _ cur 73 (.int .i64 x) hg, by simpa using hle, hm, by simp [hsz], ?_⟩⟩
    · exact jfsV_len (mem_setF hok hk hx)
    · rw [← jfsV_setF hok hk, ← ht]
      apply List.ext_getElem?
      intro q
      simp only [Array.toList_setIfInBounds]
      rw [List.take_set, List.length_set]
theorem LaidJ.setF {W : World} {B g n c k : Nat} {l : List JF} {x : Int} (h : LaidJ W B g n c l) (hk : k < n) (hx : i64I x) :
    (∃ u, W.cell? ⟨g, k * 34 + 32, none⟩ = some u) ∧ W.frozen? ⟨g, k * 34 + 32, none⟩ = false ∧ B ≤ g ∧ (∃ cs : Array Value, W.heap[g]? = some (Obj.cells cs 73 (0, 0))) ∧ LaidJ (W.setCell ⟨g, k * 34 + 32, none⟩ (.int .i64 x)) B g n c (l.set k ((l.getD k .nul).setF x)) := by
  have hn := h.len
  obtain ⟨h1, h2, h3, h4, h5⟩ := h.own.setF (k := k) (x := x) (by rw [List.length_append]; omega) hx
  refine ⟨h1, h2, h3, h4, by rw [List.length_set]; exact hn, ?_⟩
  rw [List.set_append_left _ _ (by omega), List.getD_eq_getElem?_getD, List.getElem?_append_left (by omega), ← List.getD_eq_getElem?_getD] at h5
  exact h5
/-- The record, its references, and the buffer. -/
structure Ja (w W : World) (gi g m c gb cb : Nat) (q : JR) (bs : List Int) : Prop where
  be : Below w.heap.size w W
  blk : Arr W gi 52 (jrV q (.slice (some ⟨g, 0, none⟩) m c))
  lo : w.heap.size ≤ gi
  laid : ∃ B, LaidJ W B g m c q.rs ∧ w.heap.size ≤ B
  buf : ∃ B, Own8 W B (.slice (some ⟨gb, 0, none⟩) 512 cb) bs ∧ w.heap.size ≤ B
  ok : q.Ok
theorem Ja.below {w W W' : World} {gi g m c gb cb : Nat} {q : JR} {bs : List Int} (h : Ja w W gi g m c gb cb q bs) (hb : Below W.heap.size W W') : Ja w W' gi g m c gb cb q bs := by
  obtain ⟨h1, h2, h3, ⟨B, h4, h5⟩, ⟨B2, h6, h7⟩, h8⟩ := h
  exact ⟨below_then h1 hb, h2.below hb, h3, ⟨B, h4.below hb, h5⟩, ⟨B2, h6.below hb, h7⟩, h8⟩
theorem Ja.isJ {w W : World} {gi g m c gb cb : Nat} {q : JR} {bs : List Int} (h : Ja w W gi g m c gb cb q bs) : IsJ W (.slice (some ⟨g, 0, none⟩) m c) q.rs := by
  obtain ⟨B, h4, _⟩ := h.laid
  exact h4.isJ
theorem Ja.len {w W : World} {gi g m c gb cb : Nat} {q : JR} {bs : List Int} (h : Ja w W gi g m c gb cb q bs) : q.rs.length = m := by
  obtain ⟨B, h4, _⟩ := h.laid
  exact h4.len.symm
theorem Ja.isB {w W : World} {gi g m c gb cb : Nat} {q : JR} {bs : List Int} (h : Ja w W gi g m c gb cb q bs) : IsB W (.slice (some ⟨gb, 0, none⟩) 512 cb) bs := by
  obtain ⟨B, h4, _⟩ := h.buf
  exact h4.isB
theorem Ja.lenB {w W : World} {gi g m c gb cb : Nat} {q : JR} {bs : List Int} (h : Ja w W gi g m c gb cb q bs) : bs.length = 512 := by
  have := h.isB.lenEq
  omega
theorem Ja.cell {w W : World} {gi g m c gb cb : Nat} {q : JR} {bs : List Int} (h : Ja w W gi g m c gb cb q bs) : W.cell? ⟨gi, 33, none⟩ = some (.slice (some ⟨g, 0, none⟩) m c) := (h.blk.cell 33).trans (jrV_v h.ok.len _)
/-- The block of what a row of the call's own reads. -/
theorem own8_blk {W : World} {B gb cb : Nat} {bs : List Int} (h : Own8 W B (.slice (some ⟨gb, 0, none⟩) 512 cb) bs) : B ≤ gb ∧ ∃ cs : Array Value, W.heap[gb]? = some (Obj.cells cs 5 (0, 0)) := by
  rcases h.1.2 with ⟨hv, h0⟩ | ⟨g', cap, cur, hv, hb, hg, _⟩
  · cases hv
  · injection hv with e1
    injection e1 with e1
    injection e1 with e1
    subst e1
    exact ⟨hb, cur, hg⟩
theorem blk_neJ {W : World} {a b : Nat} {cs ds : Array Value} {t s : TypeId} {m n : Nat × Nat} (ha : W.heap[a]? = some (Obj.cells cs t m)) (hb : W.heap[b]? = some (Obj.cells ds s n)) (h : t ≠ s) : a ≠ b := fun e => by
  subst e
  rw [ha] at hb
  simp only [Option.some.injEq, Obj.cells.injEq] at hb
  exact h hb.2.1
/-- A reference's First is written in place. -/
theorem Ja.setF {w W : World} {gi g m c gb cb k : Nat} {q : JR} {bs : List Int} {x : Int} (h : Ja w W gi g m c gb cb q bs) (hk : k < m) (hx : i64I x) :
    (∃ u, W.cell? ⟨g, k * 34 + 32, none⟩ = some u) ∧ W.frozen? ⟨g, k * 34 + 32, none⟩ = false ∧ gi ≠ g ∧ w.heap.size ≤ g ∧ Ja w (W.setCell ⟨g, k * 34 + 32, none⟩ (.int .i64 x)) gi g m c gb cb ⟨q.n, q.p, q.rs.set k ((q.rs.getD k .nul).setF x)⟩ bs := by
  obtain ⟨h1, h2, h3, ⟨B, h4, h5⟩, ⟨B2, h6, h7⟩, h8⟩ := h
  obtain ⟨k1, k2, k3, ⟨cs, k4⟩, k5⟩ := h4.setF hk hx
  obtain ⟨_, ds, hg8⟩ := own8_blk h6
  have hne : gi ≠ g := blk_neJ h2 k4 (by decide)
  have hne2 : g ≠ gb := blk_neJ k4 hg8 (by decide)
  have hlt := (Array.getElem?_eq_some_iff.1 k4).1
  refine ⟨k1, k2, hne, by omega, h1.setCell (Nat.le_trans h5 k3) _, ?_, h3, ⟨B, k5, h5⟩, ⟨B2, ⟨h6.1.kept (grown_set W g (k * 34 + 32) _) (Or.inr (fun e => hne2 (by injection e with e; exact e.symm))), h6.2⟩, h7⟩, ⟨h8.len, h8.by8, h8.num, mem_setF h8.refs (by have := h4.len; omega) hx⟩⟩
  exact h2.other _ _ hne
/-- A byte of the buffer is written. -/
theorem Ja.set8 {w W : World} {gi g m c gb cb k : Nat} {q : JR} {bs : List Int} (h : Ja w W gi g m c gb cb q bs) (hk : k < 512) :
    W.cell? ⟨gb, k, none⟩ = some (.int .u8 (bs.getD k 0)) ∧ W.frozen? ⟨gb, k, none⟩ = false ∧ ∀ x : Int, 0 ≤ x → x ≤ 255 → Ja w (W.setCell ⟨gb, k, none⟩ (.int .u8 x)) gi g m c gb cb q (bs.set k x) := by
  have hlb := h.lenB
  obtain ⟨h1, h2, h3, ⟨B, h4, h5⟩, ⟨B2, h6, h7⟩, h8⟩ := h
  obtain ⟨g', c', hv, _, _, hBg, hc, hs⟩ := own8_headJ h6 (by omega)
  injection hv with e1 e2 e3
  injection e1 with e1
  injection e1 with e1
  subst e1 e3
  obtain ⟨_, ds, hg8⟩ := own8_blk h6
  have hne : gi ≠ gb := blk_neJ h2 hg8 (by decide)
  obtain ⟨c1, c2⟩ := hc k (by omega)
  refine ⟨c1, c2, fun x x0 x1 => ⟨h1.setCell (Nat.le_trans h7 hBg) _, h2.other _ _ hne, h3, ⟨B, ⟨h4.len, h4.own.kept (grown_set W gb k _) ?_⟩, h5⟩, ⟨B2, by have := hs k x (by omega) x0 x1; rw [hlb] at this; exact this, h7⟩, h8⟩⟩
  rcases OwnJ.block h4.own hg8 (by decide) with e | e
  · exact Or.inl e
  · exact Or.inr e
/-- The buffer is written over. -/
theorem Ja.copied {w W W' : World} {gi g m c gb cb : Nat} {q : JR} {bs ys : List Int} {B : Nat} (h : Ja w W gi g m c gb cb q bs) (hr : Row W' B 5 (.slice (some ⟨gb, 0, none⟩) 512 cb) (ys.map (Value.int .u8))) (hB : w.heap.size ≤ B) (hy : ∀ x ∈ ys, 0 ≤ x ∧ x ≤ 255) (hg : W.grownBy W' (some gb)) : Ja w W' gi g m c gb cb q ys := by
  obtain ⟨h1, h2, h3, ⟨B1, h4, h5⟩, ⟨B2, h6, h7⟩, h8⟩ := h
  obtain ⟨hBg, ds, hg8⟩ := own8_blk h6
  have hne : gi ≠ gb := blk_neJ h2 hg8 (by decide)
  refine ⟨h1.grown hg h1.size (fun j hj => by injection hj with hj; omega), arr_grown h2 hg (fun e => hne (by injection e)), h3, ⟨B1, ⟨h4.len, h4.own.kept hg ?_⟩, h5⟩, ⟨B, ⟨?_, hy⟩, hB⟩, h8⟩
  · rcases OwnJ.block h4.own hg8 (by decide) with e | e
    · exact Or.inl e
    · exact Or.inr e
  · unfold Row at hr
    rw [List.length_map] at hr
    exact hr
end Go.Proofs.YthhjlopgpmaokabDoor
