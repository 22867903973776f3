/- A disk and the document's beside it: a Flush of both. -/
import Derived.Test.YtfgjhlnaaopdeaaDkRF
import Derived.Test.YtfgjhlnaaopdeaaDkFl
import Derived.Test.YtfgjhlnaaopdeaaDkJ
namespace Go.Proofs.Ytfgjhlnaaopdeaa
open Go.RowKit Go.Maps

theorem Pr.gF {w : World} {g p gl gm : Nat} {V : Nat → Value} {D : AD} {R : RD} (h : Pr w g p gl gm V D R) : ¬ Ft p gl gm V g := fun hF => by
  obtain ⟨a1, n1, c1, a2, n2, c2, hG, _⟩ := h.blk
  have := h.dk.tm g hF
  unfold Arr at hG
  exact (this _ _ _ hG).elim (by decide) (by decide)
theorem Arr.tailRange {w : World} {g : Nat} {t : TypeId} {c : Value} {cs : List Value} (h : Arr w g t (c :: cs)) : w.rangeAt g 1 cs := fun j v hv => h.cell_of (j := 1 + j) (by rw [Nat.add_comm, List.getElem?_cons_succ]; exact hv)
theorem Arr.tailThere {w : World} {g : Nat} {t : TypeId} {c : Value} {cs ds : List Value} (h : Arr w g t (c :: cs)) (hl : ds.length = cs.length) : w.there g 1 ds.length := fun j hj => by
  refine ⟨?_, h.frozen _⟩
  rw [h.cell, List.getElem?_eq_getElem (by rw [List.length_cons]; omega)]
  rfl
theorem Pr.below {w w' : World} {g p gl gm : Nat} {V : Nat → Value} {D : AD} {R : RD} (h : Pr w g p gl gm V D R) (hb : Below w.heap.size w w') : Pr w' g p gl gm V D R := by
  obtain ⟨a1, n1, c1, a2, n2, c2, hG, hL, hW⟩ := h.blk
  exact ⟨⟨a1, n1, c1, a2, n2, c2, hG.below hb, hL.below hb, hW.below hb⟩, h.dk.below hb, h.rel⟩
/-- The pair behind the document's part. -/
theorem pr_stored {w1 w2 : World} {g p gl gm : Nat} {V : Nat → Value} {D : AD} {R : RD} (h : Pr w1 g p gl gm V D R) (hb2 : Below w1.heap.size w1 w2) {ds : List Value} (hl : ds.length = 6) :
    Dk (w2.setCells g 1 ds) p gl gm V D ∧ Arr (w2.setCells g 1 ds) g 38 (.pointer (some ⟨p, 0, none⟩) :: ds) ∧ (∀ v l, IsAts w2 v l → IsAts (w2.setCells g 1 ds) v l) ∧ w2.there g 1 ds.length ∧ Up (Fp g p gl gm V) w1 (w2.setCells g 1 ds) := by
  have hgF := h.gF
  obtain ⟨a1, n1, c1, a2, n2, c2, hG, _, _⟩ := h.blk
  have hG2 := hG.below hb2
  have hg3 := grown_setCells w2 g 1 ds
  have hu3 : Up (fun b => b = g) w2 (w2.setCells g 1 ds) := Up.of_grown hg3 (fun b hb => (Option.some.inj hb).symm)
  refine ⟨(h.dk.below hb2).up hu3 (fun b hb e => ?_), hG2.setTail (by rw [hl]; rfl), fun v l hI => hI.other hg3 hG2 (by decide) (by decide), hG2.tailThere (by rw [hl]; rfl), (Up.of_below (F := Fp g p gl gm V) hb2).trans (F' := Fp g p gl gm V) (hu3.mono (fun b hb => Or.inl hb)) (fun _ h => Or.inl h)⟩
  have e' : b = g := e
  subst e'
  exact hgF hb
theorem fin_flush {w1 w2 : World} {g p gl gm : Nat} {V : Nat → Value} {D : AD} {R : RD} (h : Pr w1 g p gl gm V D R) {a3 : Option Addr} {n3 c3 : Nat} (hI : IsAts w2 (.slice a3 n3 c3) (RD.flushL R.la R.wr)) (hb2 : Below w1.heap.size w1 w2) (hwl : ∀ i, (D.wr i).length ≤ 68719476736) (hf0 : 0 ≤ D.fl) (hf1 : D.fl ≤ 1152921504606846976) :
    Calls Try.prog 18 #[.pointer (some ⟨p, 0, none⟩)] (w2.setCells g 1 (rdC R.n a3 n3 c3 none 0 0 R.rd R.wt (R.fl + 1))) fun e w' => e = .returned (.tuple #[]) ∧ ∃ gm', Pr w' g p gl gm' (fun _ => .slice none 0 0) D.flush R.flush ∧ w1.heap.size ≤ gm' ∧ Up (Fp g p gl gm V) w1 w' := by
  have hgF := h.gF
  obtain ⟨hD3, hG3, hI3, _, hU3⟩ := pr_stored h hb2 (ds := rdC R.n a3 n3 c3 none 0 0 R.rd R.wt (R.fl + 1)) rfl
  refine (flush_calls hD3 hwl hf0 hf1).mono ?_
  rintro e w' ⟨rfl, gm', hgm, hd, hu⟩
  have hF2 : ∀ b, (b = p ∨ b = gl) → Ft p gl gm V b := fun b hb => hb.elim Or.inl (fun hb => Or.inr (Or.inl hb))
  have hnot : ¬ (g = p ∨ g = gl) := fun e => hgF (hF2 g e)
  have hs := hU3.size
  exact ⟨rfl, gm', ⟨⟨a3, n3, c3, none, 0, 0, hG3.up hu hnot, (hI3 _ _ hI).tm hu (fun b hb => hD3.tm b (hF2 b hb)), IsAts.nil w'⟩, hd, h.rel.flush (fun i => by have := hwl i; omega)⟩, by omega, hU3.trans (F' := Fp g p gl gm V) (hu.mono (fun b hb => Or.inr (hF2 b hb))) (fun _ h => Or.inl h)⟩
set_option maxRecDepth 100000 in
set_option maxHeartbeats 4000000 in
theorem does_flush {w : World} {g p gl gm : Nat} {V : Nat → Value} {D : AD} {R : RD} (h : Pr w g p gl gm V D R) (x y z : Int) (vb vf : Value) (hv1 : ∃ a n c, vb = .slice a n c) (hv2 : ∃ a n c, vf = .slice a n c) (hwl : ∀ i, (D.wr i).length ≤ 68719476736) (hl : R.la.length + R.wr.length ≤ 549755813888) (hf0 : 0 ≤ D.fl) (hf1 : D.fl ≤ 1152921504606846976) :
    Calls Try.prog 10 #[.pointer (some ⟨g, 0, none⟩), .agg #[.int .i64 2, .int .i64 x, .int .i64 y, vb, .int .i64 z, vf]] w fun e w' => e = .returned (.bool true) ∧ ∃ gm', Pr w' g p gl gm' (fun _ => .slice none 0 0) D.flush R.flush ∧ w.heap.size ≤ gm' ∧ Up (Fp g p gl gm V) w w' := by
  obtain ⟨ba, bn, bc, rfl⟩ := hv1
  obtain ⟨fa, fn, fc, rfl⟩ := hv2
  have hb1 := (Below.refl w.heap.size w).alloc (Nat.le_refl _) (.cells #[.int .i64 2, .int .i64 x, .int .i64 y, .slice ba bn bc, .int .i64 z, .slice fa fn fc] 30)
  have hP1 := h.below hb1
  obtain ⟨a1, n1, c1, a2, n2, c2, hG1, hL1, hW1⟩ := hP1.blk
  have hrg := hG1.tailRange
  have hc0 := hG1.cell_of (j := 0) rfl
  have hund := Try.underlying36
  have HP1 := hide hP1
  have HL1 := hide hL1
  have HW1 := hide hW1
  have HB1 := hide hb1
  have HWL := hide hwl
  have hfl := h.rel.fl
  have HB := hide (show R.la.length + R.wr.length ≤ 549755813888 ∧ 0 ≤ D.fl ∧ D.fl ≤ 1152921504606846976 ∧ R.fl = D.fl from ⟨hl, hf0, hf1, hfl⟩)
  clear h hP1 hG1 hL1 hW1 hb1 hwl hl hf0 hf1 hfl
  go_enter Try.func10, Try.ntmps10
  go_wp2_with (first
    | (refine wpList_load_mid rfl 36 (.tmp 94) rfl g 1 rfl (rdC R.n a1 n1 c1 a2 n2 c2 R.rd R.wt R.fl) _ hrg hund rfl info36 ?_))
  generalize w.alloc (.cells #[.int .i64 2, .int .i64 x, .int .i64 y, .slice ba bn bc, .int .i64 z, .slice fa fn fc] 30) = w1 at *
  refine (rflush_calls (n := R.n) (rd := R.rd) (wt := R.wt) (fl := R.fl) HL1.out HW1.out HB.out.1 (by have := HB.out; omega) (by have := HB.out; omega)).mono ?_
  rintro e w2 ⟨a3, n3, c3, rfl, hI2, hb2⟩
  obtain ⟨_, hG3, _, hth, _⟩ := pr_stored HP1.out hb2 (ds := rdC R.n a3 n3 c3 none 0 0 R.rd R.wt (R.fl + 1)) rfl
  have hc2 := hG3.cell_of (j := 0) rfl
  have HF2 := hide (fin_flush HP1.out hI2 hb2 HWL.out HB.out.2.1 HB.out.2.2.1)
  have hone := rdC_one R.n a3 n3 c3 none 0 0 R.rd R.wt (R.fl + 1)
  have hsz1 := HB1.out.size
  clear hI2 hb2 hG3 hrg hc0
  generalize hcs : rdC R.n a3 n3 c3 none 0 0 R.rd R.wt (R.fl + 1) = cs at *
  have hi6 : (Try.prog.info? 36).map (·.size) = some cs.length := by rw [← hcs]; exact info36
  clear hcs
  generalize hw3 : w2.setCells g 1 cs = w3 at *
  have HW3 := hide hw3
  clear hw3
  go_wp2_with (first
    | (refine wpList_storeRow (cs := cs) rfl (.tmp 98) (.tmp 96) 36 rfl rfl rfl hth hi6 hone ?_; rw [HW3.out]))
  refine (unhide HF2).mono ?_
  rintro e w4 ⟨rfl, gm', h4, h5, h6⟩
  have H4 : Hid (∃ gm', Pr w4 g p gl gm' (fun _ => .slice none 0 0) D.flush R.flush ∧ w.heap.size ≤ gm' ∧ Up (Fp g p gl gm V) w w4) := ⟨gm', h4, by omega, (Up.of_below (F := Fp g p gl gm V) HB1.out).trans (F' := Fp g p gl gm V) h6 (fun _ h => Or.inl h)⟩
  clear h4 h5 h6 HF2
  go_wp2
  go_ret
  exact ⟨rfl, H4.out⟩
end Go.Proofs.Ytfgjhlnaaopdeaa
