/- What the document's Decode answers. -/
import Derived.Test.YthhjlopgpmaokabDoorJrH
import Derived.Test.YthhjlopgpmaokabDoorJrF
namespace Go.Proofs.YthhjlopgpmaokabDoor
open Go.RowKit Go.Maps

theorem grown_set (W : World) (g j : Nat) (u : Value) : W.grownBy (W.setCell ⟨g, j, none⟩ u) (some g) := ⟨rfl, rfl, rfl, by simp, fun k _ hk => Below.heap_setCell W ⟨g, j, none⟩ u k (fun e => hk (by rw [e]))⟩
/-- One cell of the record is written. -/
theorem NmS.setc {w W : World} {g2 g3 j : Nat} {r0 r1 : JR} {l : List JF} {v u : Value} (h : NmS w W g2 g3 r0 l v) (hj : (jrV r0 v).set j u = jrV r1 v) (hg : w.heap.size ≤ g3) (hne : g2 ≠ g3) : NmS w (W.setCell ⟨g3, j, none⟩ u) g2 g3 r1 l v := by
  refine ⟨?_, ⟨h.2.1.1, h.2.1.2.kept (grown_set W g3 j u) (OwnJ.block h.2.1 h.1 (by decide))⟩, h.2.2.1.other _ _ hne, jbelow_grown h.2.2.2 (grown_set W g3 j u) h.2.2.2.size hg⟩
  have := h.1.set j u
  rw [hj] at this
  exact this
theorem jrV_num (r : JR) (v : Value) (n : Int) : (jrV r v).set 0 (.int .i64 n) = jrV { r with n := n } v := rfl
theorem jrV_pr {r : JR} {k : Nat} (hk : k < r.p.length) (v : Value) (x : Int) : (jrV r v).set (1 + k) (.int .u8 x) = jrV { r with p := r.p.set k x } v := by
  unfold jrV
  rw [Nat.add_comm, List.set_cons_succ, List.set_append_left _ _ (by simpa using hk), List.map_set]
theorem jfV_hs {r : JF} {k : Nat} (hk : k < r.h.length) (x : Int) : (jfV r).set k (.int .u8 x) = jfV { r with h := r.h.set k x } := by
  unfold jfV
  rw [List.set_append_left _ _ (by simpa using hk), List.map_set]
theorem jfV_fs {r : JF} (h : r.h.length = 32) (x : Int) : (jfV r).set 32 (.int .i64 x) = jfV { r with f := x } := by
  unfold jfV
  rw [List.set_append_right _ _ (by simp [h])]
  simp [h]
theorem jfV_ls {r : JF} (h : r.h.length = 32) (x : Int) : (jfV r).set 33 (.int .i64 x) = jfV { r with l := x } := by
  unfold jfV
  rw [List.set_append_right _ _ (by simp [h])]
  simp [h]
/-- The first k bytes of a part, and zeros. -/
def prt (b : List Int) (o k : Nat) : List Int := (b.drop o).take k ++ List.replicate (32 - k) 0
theorem prt_len {b : List Int} {o k : Nat} (hk : k ≤ 32) (hl : o + 32 ≤ b.length) : (prt b o k).length = 32 := by simp [prt]; omega
theorem prt_zero (b : List Int) (o : Nat) : prt b o 0 = List.replicate 32 0 := by simp [prt]
theorem prt_all (b : List Int) (o : Nat) : prt b o 32 = (b.drop o).take 32 := by simp [prt]
theorem prt_step {b : List Int} {o k : Nat} (hk : k < 32) (hl : o + 32 ≤ b.length) : (prt b o k).set k (b.getD (o + k) 0) = prt b o (k + 1) := by
  have h1 : ((b.drop o).take k).length = k := by simp; omega
  unfold prt
  rw [List.set_append_right _ _ (by omega), h1, Nat.sub_self, show 32 - k = (32 - (k + 1)) + 1 by omega, List.replicate_succ, List.set_cons_zero]
  have h2 : (b.drop o).take (k + 1) = (b.drop o).take k ++ [b.getD (o + k) 0] := by
    rw [take_next (by simp; omega), List.getD_eq_getElem?_getD, List.getElem?_drop, ← List.getD_eq_getElem?_getD]
  rw [h2, List.append_assoc]
  rfl
/-- A reference is being read beside it. -/
structure IxS (w W : World) (g2 g4 g7 : Nat) (r0 : JR) (l : List JF) (v : Value) (x : JF) : Prop where
  nm : NmS w W g2 g4 r0 l v
  ar : Arr W g7 73 (jfV x)
  ne : v.ownBlock ≠ some g7
  lo : w.heap.size ≤ g7
theorem IxS.new {w W : World} {g2 g4 : Nat} {r0 : JR} {l : List JF} {v : Value} (h : NmS w W g2 g4 r0 l v) : IxS w (W.alloc (.cells z34J.toArray 73)) g2 g4 W.heap.size r0 l v ⟨List.replicate 32 0, 0, 0⟩ := by
  refine ⟨h.below (jalloc_below W _), ?_, fun e => ?_, h.2.2.2.size⟩
  · have := Arr.new W z34J 73
    rw [show z34J = jfV ⟨List.replicate 32 0, 0, 0⟩ by unfold z34J jfV; rw [List.map_replicate]] at this
    rw [show z34J = jfV ⟨List.replicate 32 0, 0, 0⟩ by unfold z34J jfV; rw [List.map_replicate]]
    exact this
  · have := (World.ownsRow.lt h.2.1.2 _ e).2
    omega
theorem arr_apart {W : World} {g g' : Nat} {t t' : TypeId} {cs cs' : List Value} (h : Arr W g t cs) (h' : Arr W g' t' cs') (ht : t ≠ t') : g ≠ g' := fun e => by
  subst e
  unfold Arr at h h'
  rw [h] at h'
  simp only [Option.some.injEq, Obj.cells.injEq] at h'
  exact ht h'.2.1
theorem IxS.setc {w W : World} {g2 g4 g7 j : Nat} {r0 : JR} {l : List JF} {v u : Value} {x y : JF} (h : IxS w W g2 g4 g7 r0 l v x) (hj : (jfV x).set j u = jfV y) : IxS w (W.setCell ⟨g7, j, none⟩ u) g2 g4 g7 r0 l v y := by
  have hd : 52 ≠ 73 := by decide
  refine ⟨⟨h.nm.1.other _ _ (arr_apart h.nm.1 h.ar hd), ⟨h.nm.2.1.1, h.nm.2.1.2.kept (grown_set W g7 j u) (Or.inr h.ne)⟩, h.nm.2.2.1.other _ _ (arr_apart h.nm.2.2.1 h.ar hd), jbelow_grown h.nm.2.2.2 (grown_set W g7 j u) h.nm.2.2.2.size h.lo⟩, ?_, h.ne, h.lo⟩
  have := h.ar.set j u
  rw [hj] at this
  exact this
theorem jsame_calls {w : World} {va vb : Value} {xs ys : List Int} (ha : IsB w va xs) (hb : IsB w vb ys) : Calls Tryd.prog 59 #[va, vb] w fun e w' => e = .returned (.bool (decide (xs = ys))) ∧ w' = w := by
  have c1 := conv_isB ha
  have c2 := conv_isB hb
  have he : ((mkS xs).toList == (mkS ys).toList) = decide (xs = ys) := by
    rw [Bool.eq_iff_iff, beq_iff_eq, decide_eq_true_iff, ByteArray.toList_eq, ByteArray.toList_eq]
    exact ⟨fun h => mkS_inj ha.mem hb.mem (congrArg ByteArray.mk (Array.toList_inj.1 h)), fun h => by rw [h]⟩
  clear ha hb
  go_enter Tryd.func59, Tryd.ntmps59
  go_wp2
  go_ret
  exact ⟨by rfl, rfl⟩
set_option maxRecDepth 100000 in
set_option maxHeartbeats 4000000 in
theorem rdec_none {w : World} {va : Option Addr} {n vc : Nat} (hlc : n ≤ vc) (_hvm : vc ≤ 9223372036854775807) (h : (n != 512) = true ∨ n = 512 ∧ ∃ bk of, va = some ⟨bk, of, none⟩ ∧ ∃ c : Int, (∀ W, Below w.heap.size w W → W.cell? ⟨bk, of + 44, none⟩ = some (.int .u8 c)) ∧ (c < 1 ∨ 8 < c)) :
    Calls Tryd.prog 33 #[.slice va n vc] w fun e w' => e = .returned (.tuple #[.agg (jrV .nul (.slice none 0 0)).toArray, .bool false]) ∧ Below w.heap.size w w' := by
  have hlen0 : z34R.length = (jrV .nul (.slice none 0 0)).length := by rw [jrV_len nul_len]; decide
  have hinf0 := infoRof nul_len (.slice none 0 0)
  have hone0 := jrV_one JR.nul (v := .slice none 0 0) rfl
  have hb1 := jalloc_below w (.cells z34R.toArray 52)
  have hA1 := Arr.new w z34R 52
  obtain ⟨w1, hw1⟩ : ∃ w1, w1 = w.alloc (.cells z34R.toArray 52) := ⟨_, rfl⟩
  rw [← hw1] at hb1 hA1
  have hb2 := jalloc_below w1 (.cells z34R.toArray 52)
  have hA2 := Arr.new w1 z34R 52
  obtain ⟨w2, hw2⟩ : ∃ w2, w2 = w1.alloc (.cells z34R.toArray 52) := ⟨_, rfl⟩
  rw [← hw2] at hb2 hA2
  have hA12 := hA1.below hb2
  have hbw := below_then hb1 hb2
  rw [z34R_nul] at hA2
  have hrng := hA2.rangeJ
  have HB := hide hbw
  have HA12 := hide hA12
  have HW1 := hide hw1
  have HW2 := hide hw2
  obtain ⟨g2, hg2⟩ : ∃ g2, g2 = w.heap.size := ⟨_, rfl⟩
  obtain ⟨g4, hg4⟩ : ∃ g4, g4 = w1.heap.size := ⟨_, rfl⟩
  have HG2 := hide hg2
  have HG4 := hide hg4
  rw [← hg2] at HA12
  rw [← hg4] at hrng
  have HFIN : Hid (∀ w3, w2.grownBy w3 (some g2) → Below w.heap.size w w3) := hide (fun w3 hg => jbelow_grown hbw hg hbw.size (by omega))
  rcases h with h | ⟨rfl, bk, of, rfl, c, hc, hcc⟩
  · have hn : ((n : Int) != 512) = true := by
      have h9 : ¬ n = 512 := by simpa using h
      simp
      omega
    clear h hb1 hA1 hw1 hb2 hA2 hw2 hA12 hbw hg2 hg4
    go_enter Tryd.func33, Tryd.ntmps33
    go_wp2_with (first
      | (refine wpList_allocJ rfl 52 rfl infoR ?_; first | rw [← HW1.out, ← HG2.out] | rw [← HW2.out, ← HG4.out])
      | (refine wpList_loadJ rfl 52 (.tmp 4) rfl g4 0 rfl (jrV .nul (.slice none 0 0)) _ hrng Tryd.underlying52 rfl hinf0 ?_)
      | (refine wpList_storeJ rfl (.tmp 2) (.tmp 27) 52 rfl rfl rfl HA12.out hinf0 hlen0 hone0 ?_; intro w6 hA6 hg6))
    have hA7 : Arr w6 g2 52 (jrV .nul (.slice none 0 0)) := hA6
    refine bodyPost_ret (results_rowJ2 rfl rfl rfl hA7 Tryd.underlying52 rfl hinf0) rfl ?_
    exact ⟨rfl, unhide HFIN w6 hg6⟩
  · have hcl := hc w2 hbw
    by_cases hc1 : c < 1
    · clear hcc hb1 hA1 hw1 hb2 hA2 hw2 hA12 hbw hg2 hg4
      go_enter Tryd.func33, Tryd.ntmps33
      go_wp2_with (first
        | (refine wpList_allocJ rfl 52 rfl infoR ?_; first | rw [← HW1.out, ← HG2.out] | rw [← HW2.out, ← HG4.out])
        | (refine wpList_loadJ rfl 52 (.tmp 4) rfl g4 0 rfl (jrV .nul (.slice none 0 0)) _ hrng Tryd.underlying52 rfl hinf0 ?_)
        | (refine wpList_storeJ rfl (.tmp 2) (.tmp 27) 52 rfl rfl rfl HA12.out hinf0 hlen0 hone0 ?_; intro w6 hA6 hg6))
      have hA7 : Arr w6 g2 52 (jrV .nul (.slice none 0 0)) := hA6
      refine bodyPost_ret (results_rowJ2 rfl rfl rfl hA7 Tryd.underlying52 rfl hinf0) rfl ?_
      exact ⟨rfl, unhide HFIN w6 hg6⟩
    · have hc8 : 8 < c := by omega
      have hc1' : decide (c < 1) = false := by simp; omega
      clear hcc hc1 hb1 hA1 hw1 hb2 hA2 hw2 hA12 hbw hg2 hg4
      go_enter Tryd.func33, Tryd.ntmps33
      go_wp2_with (first
        | (refine wpList_allocJ rfl 52 rfl infoR ?_; first | rw [← HW1.out, ← HG2.out] | rw [← HW2.out, ← HG4.out])
        | (refine wpList_loadJ rfl 52 (.tmp 4) rfl g4 0 rfl (jrV .nul (.slice none 0 0)) _ hrng Tryd.underlying52 rfl hinf0 ?_)
        | (refine wpList_storeJ rfl (.tmp 2) (.tmp 27) 52 rfl rfl rfl HA12.out hinf0 hlen0 hone0 ?_; intro w6 hA6 hg6))
      have hA7 : Arr w6 g2 52 (jrV .nul (.slice none 0 0)) := hA6
      refine bodyPost_ret (results_rowJ2 rfl rfl rfl hA7 Tryd.underlying52 rfl hinf0) rfl ?_
      exact ⟨rfl, unhide HFIN w6 hg6⟩
end Go.Proofs.YthhjlopgpmaokabDoor
