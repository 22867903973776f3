/- plays, a theorem a kind. -/
import Derived.Test.YtifmfnkpogconaaDoorPlays4
namespace Go.Proofs.YtifmfnkpogconaaDoor
open Go.RowKit

theorem T4op : ¬ T4 39 := by unfold T4; decide
/-- What plays leaves. -/
theorem Left.of_below {w w1 w' : World} {B gW m t : Nat} (hb : Below w.heap.size w w1) (h : Left w1 w' B gW m t) : Left w w' B gW m t := ⟨h.1, (Ch.of_below hb).trans h.2⟩
theorem Left.then_below {w w1 w' : World} {B gW m t : Nat} (h : Left w w1 B gW m t) (hb : Below w1.heap.size w1 w') : Left w w' B gW m t := by
  obtain ⟨⟨P', n', U', X', hw, ht⟩, hc⟩ := h
  exact ⟨⟨P', n', U', X', hw.below hb, ht⟩, hc.trans (Ch.of_below hb)⟩
set_option maxRecDepth 100000 in
set_option maxHeartbeats 4000000 in
theorem plays_free {w : World} {B gW m t n : Nat} {P : Nat → Pr} {U : Nat → Value} {X : Nat → List Nat} (h : Wd w B gW m P t n U X) (htw : Tws m P) (hT : Tz w) (hm : 0 < m) (hm6 : m ≤ 6) (_ht : t ≤ 1000) (O N : Int) :
    Calls Tryd.prog 11 #[.pointer (some ⟨gW, 0, none⟩), .agg #[.int .i64 6, .int .i64 O, .int .i64 N]] w fun e w' => e = .returned (.bool true) ∧ Left w w' B gW m t := by
  obtain ⟨vS, vR, vL, vK, NN, h1, h2, h3, h4⟩ := h.blk
  obtain ⟨ss, k1, k2, k3⟩ := h3.s
  obtain ⟨rs, k4, k5, k6⟩ := h3.r
  have hi : pl O m < m := pl_lt hm
  have HI := hide hi
  obtain ⟨gS, cS, hvS, q1, q2, _, hgS⟩ := k2.head (by omega)
  obtain ⟨gR, cR, hvR, q3, q4, _, hgR⟩ := k5.head (by omega)
  rw [k1] at hvS q1
  rw [k4] at hvR q3
  subst hvS hvR
  have HC : Hid (∀ W, Below w.heap.size w W → W.cell? ⟨gW, 0, none⟩ = some (.slice (some ⟨gS, 0, none⟩) m cS) ∧ W.cell? ⟨gW, 1, none⟩ = some (.slice (some ⟨gR, 0, none⟩) m cR) ∧ W.cell? ⟨gS, pl O m, none⟩ = some (.pointer (some ⟨(P (pl O m)).g, 0, none⟩)) ∧ W.cell? ⟨gR, pl O m, none⟩ = some (.pointer (some ⟨(P (pl O m)).g2, 0, none⟩))) := fun W hW => by
    have e : W.heap[gW]? = _ := (hW.block gW (Array.getElem?_eq_some_iff.1 h1).1).trans h1
    refine ⟨cell_of_row W gW 0 _ _ _ e, by rw [cell_of_row W gW 1 _ _ _ e]; rfl, ?_, ?_⟩
    · rw [(k2.below hW).cellAt (by rw [k1]; exact hi), k3 _ hi]
    · rw [(k5.below hW).cellAt (by rw [k4]; exact hi), k6 _ hi]
  have hb0 := alloc_below w (.cells #[.int .i64 6, .int .i64 O, .int .i64 N] 39)
  have hO := heap_alloc_new w (.cells #[.int .i64 6, .int .i64 O, .int .i64 N] 39)
  have HPL : Hid (∀ W, Calls Tryd.prog 15 #[.int .i64 O, .int .i64 (m : Int)] W fun e w' => e = .returned (.int .i64 ((pl O m : Nat) : Int)) ∧ w' = W) := fun W => place4_calls O m hm (by omega) W
  have hiI : ((pl O m : Nat) : Int) < (m : Int) := by omega
  have hi0 : (0 : Int) ≤ ((pl O m : Nat) : Int) := by omega
  have H := hide h
  have HT := hide hT
  have HTW := hide htw
  clear h1 h2 h3 h4 k1 k2 k3 k4 k5 k6 hi h hT htw
  go_enter Tryd.func11, Tryd.ntmps11
  go_wp2_with fail
  generalize w.alloc (.cells #[.int .i64 6, .int .i64 O, .int .i64 N] 39) = W0 at *
  obtain ⟨c0, c1, c2, c3⟩ := unhide HC W0 hb0
  have d0 : W0.cell? ⟨w.heap.size, 0, none⟩ = some (.int .i64 6) := cell_of_row W0 _ 0 _ _ _ hO
  have d1 : W0.cell? ⟨w.heap.size, 1, none⟩ = some (.int .i64 O) := by rw [cell_of_row W0 _ 1 _ _ _ hO]; rfl
  generalize hgO : w.heap.size = gO at *
  have HGO := hide hgO
  have HO := hide hO
  have HB0 := hide hb0
  clear hb0 hO hgO
  go_quiet ((go_at_call 15; exact Calls.quiet_of_same (unhide HPL _)))
  have hbq : Below gO w (W0.drewN nq) := (HB0.out).trans ((drewn_below W0 nq).mono (by rw [← HGO.out]; exact (show w.heap.size ≤ W0.heap.size by have := (HB0.out).size; omega)))
  obtain ⟨c0', c1', c2', c3'⟩ := unhide HC _ hbq
  have hO' := (((drewn_below W0 nq).block gO (Array.getElem?_eq_some_iff.1 HO.out).1).trans HO.out)
  clear c0 c1 c2 c3 d0 d1
  generalize W0.drewN nq = W at *
  rw [← HGO.out] at hbq
  have d0 : W.cell? ⟨gO, 0, none⟩ = some (.int .i64 6) := cell_of_row W _ 0 _ _ _ hO'
  have d2 : W.cell? ⟨gO, 2, none⟩ = some (.int .i64 N) := by rw [cell_of_row W _ 2 _ _ _ hO']; rfl
  have HOW := hide hO'
  have HB := hide hbq
  have h := (H.out).below hbq
  have hT := (HT.out).below hbq
  have htw := HTW.out
  clear hO' hbq HB0 H HT HO
  generalize pl O m = i at *
  have hi := HI.out
  have H1 := hide (free_calls (h.pr hi).sp)
  have H2 := hide (rfree_calls (h.pr hi).rs)
  rw [(htw i hi).all (h.pr hi).sp, freeN_allF] at H2
  have h' := hide h.more
  generalize freeN (P i).ws = fN at H1 H2
  clear h hT htw
  go_wp2_with fail
  refine (unhide H1).mono ?_
  rintro e w1 ⟨rfl, hw1⟩
  obtain rfl := hw1.symm
  clear hw1
  go_wp2_with fail
  refine (unhide H2).mono ?_
  rintro e w2 ⟨rfl, hb2⟩
  go_wp2
  go_ret
  exact ⟨by simp, ⟨P, n, U, X, (h'.out).below hb2, HTW.out⟩, (Ch.of_below HB.out).trans (Ch.of_below hb2)⟩
set_option maxRecDepth 100000 in
set_option maxHeartbeats 4000000 in
theorem plays_take {w : World} {B gW m t n : Nat} {P : Nat → Pr} {U : Nat → Value} {X : Nat → List Nat} (h : Wd w B gW m P t n U X) (htw : Tws m P) (hT : Tz w) (hm : 0 < m) (hm6 : m ≤ 6) (_ht : t ≤ 1000) (O N : Int) :
    Calls Tryd.prog 11 #[.pointer (some ⟨gW, 0, none⟩), .agg #[.int .i64 1, .int .i64 O, .int .i64 N]] w fun e w' => e = .returned (.bool true) ∧ Left w w' B gW m t := by
  obtain ⟨vS, vR, vL, vK, NN, h1, h2, h3, h4⟩ := h.blk
  obtain ⟨ss, k1, k2, k3⟩ := h3.s
  obtain ⟨rs, k4, k5, k6⟩ := h3.r
  have hi : pl O m < m := pl_lt hm
  have HI := hide hi
  obtain ⟨gS, cS, hvS, q1, q2, _, hgS⟩ := k2.head (by omega)
  obtain ⟨gR, cR, hvR, q3, q4, _, hgR⟩ := k5.head (by omega)
  rw [k1] at hvS q1
  rw [k4] at hvR q3
  subst hvS hvR
  have HC : Hid (∀ W, Below w.heap.size w W → W.cell? ⟨gW, 0, none⟩ = some (.slice (some ⟨gS, 0, none⟩) m cS) ∧ W.cell? ⟨gW, 1, none⟩ = some (.slice (some ⟨gR, 0, none⟩) m cR) ∧ W.cell? ⟨gS, pl O m, none⟩ = some (.pointer (some ⟨(P (pl O m)).g, 0, none⟩)) ∧ W.cell? ⟨gR, pl O m, none⟩ = some (.pointer (some ⟨(P (pl O m)).g2, 0, none⟩))) := fun W hW => by
    have e : W.heap[gW]? = _ := (hW.block gW (Array.getElem?_eq_some_iff.1 h1).1).trans h1
    refine ⟨cell_of_row W gW 0 _ _ _ e, by rw [cell_of_row W gW 1 _ _ _ e]; rfl, ?_, ?_⟩
    · rw [(k2.below hW).cellAt (by rw [k1]; exact hi), k3 _ hi]
    · rw [(k5.below hW).cellAt (by rw [k4]; exact hi), k6 _ hi]
  have hb0 := alloc_below w (.cells #[.int .i64 1, .int .i64 O, .int .i64 N] 39)
  have hO := heap_alloc_new w (.cells #[.int .i64 1, .int .i64 O, .int .i64 N] 39)
  have HPL : Hid (∀ W, Calls Tryd.prog 15 #[.int .i64 O, .int .i64 (m : Int)] W fun e w' => e = .returned (.int .i64 ((pl O m : Nat) : Int)) ∧ w' = W) := fun W => place4_calls O m hm (by omega) W
  have hiI : ((pl O m : Nat) : Int) < (m : Int) := by omega
  have hi0 : (0 : Int) ≤ ((pl O m : Nat) : Int) := by omega
  have H := hide h
  have HT := hide hT
  have HTW := hide htw
  clear h1 h2 h3 h4 k1 k2 k3 k4 k5 k6 hi h hT htw
  go_enter Tryd.func11, Tryd.ntmps11
  go_wp2_with fail
  generalize w.alloc (.cells #[.int .i64 1, .int .i64 O, .int .i64 N] 39) = W0 at *
  obtain ⟨c0, c1, c2, c3⟩ := unhide HC W0 hb0
  have d0 : W0.cell? ⟨w.heap.size, 0, none⟩ = some (.int .i64 1) := cell_of_row W0 _ 0 _ _ _ hO
  have d1 : W0.cell? ⟨w.heap.size, 1, none⟩ = some (.int .i64 O) := by rw [cell_of_row W0 _ 1 _ _ _ hO]; rfl
  generalize hgO : w.heap.size = gO at *
  have HGO := hide hgO
  have HO := hide hO
  have HB0 := hide hb0
  clear hb0 hO hgO
  go_quiet ((go_at_call 15; exact Calls.quiet_of_same (unhide HPL _)))
  have hbq : Below gO w (W0.drewN nq) := (HB0.out).trans ((drewn_below W0 nq).mono (by rw [← HGO.out]; exact (show w.heap.size ≤ W0.heap.size by have := (HB0.out).size; omega)))
  obtain ⟨c0', c1', c2', c3'⟩ := unhide HC _ hbq
  have hO' := (((drewn_below W0 nq).block gO (Array.getElem?_eq_some_iff.1 HO.out).1).trans HO.out)
  clear c0 c1 c2 c3 d0 d1
  generalize W0.drewN nq = W at *
  rw [← HGO.out] at hbq
  have d0 : W.cell? ⟨gO, 0, none⟩ = some (.int .i64 1) := cell_of_row W _ 0 _ _ _ hO'
  have d2 : W.cell? ⟨gO, 2, none⟩ = some (.int .i64 N) := by rw [cell_of_row W _ 2 _ _ _ hO']; rfl
  have HOW := hide hO'
  have HB := hide hbq
  have h := (H.out).below hbq
  have hT := (HT.out).below hbq
  have htw := HTW.out
  clear hO' hbq HB0 H HT HO
  generalize pl O m = i at *
  have hi := HI.out
  have HP := hide (h.pr hi)
  have H2' : Hid (∀ W1 P1, Wd W1 B gW m P1 t n U X → (P1 i).g2 = (P i).g2 → (P1 i).gb = (P i).gb → (P1 i).fr = (P i).fr → (P1 i).to_ = (P i).to_ → (P1 i).bs = (P i).bs → Calls Tryd.prog 31 #[.pointer (some ⟨(P i).g2, 0, none⟩)] W1 fun e w2 => e = .returned (.tuple #[.int .i64 ((allR (P i).fr (P i).bs).headD 0 : Nat), .bool (decide (0 < (allR (P i).fr (P i).bs).length))]) ∧ Hid (Wd w2 B gW m (upd P1 i ((P1 i).setB (clrR (P i).fr (P i).bs ((allR (P i).fr (P i).bs).take 1)))) t n U X ∧ Ch B T4 W1 w2)) := fun W1 P1 hw e1 e2 e3 e4 e5 => by
    have hr := (hw.pr hi).rs
    rw [e1, e2, e3, e4, e5] at hr
    refine (rtake_calls hr).mono ?_
    rintro e w2 ⟨r1, r2, r3⟩
    obtain ⟨q1, q2⟩ := hw.bits hi (bs := clrR (P i).fr (P i).bs ((allR (P i).fr (P i).bs).take 1)) (by rw [e2]; exact r3) (by rw [e1, e2, e3, e4]; exact r2)
    exact ⟨r1, q1, q2.mono (Nat.le_refl _) fun t => T4B⟩
  have hall := (htw i hi).all (h.pr hi).sp
  have HTK := hide ((htw i hi).takeAll (h.pr hi).sp 1)
  rw [hall] at H2' HTK
  cases hl : allF (P i).fr 0 (P i).ws with
  | nil =>
    rw [hl] at H2' HTK
    have H1 : Hid (Calls Tryd.prog 18 #[.pointer (some ⟨(P i).g, 0, none⟩)] W fun e w1 => e = .returned (.tuple #[.int .i64 0, .bool false]) ∧ w1 = W) := (take_calls (h.pr hi).sp hT).mono fun e w1 hd => by
      rcases hd with ⟨_, e1, e2⟩ | ⟨a, b, e1, _⟩
      · exact ⟨e1, e2⟩
      · rw [hl] at e1; cases e1
    have HH := hide h
    clear h hT htw hall hl
    go_wp2_with fail
    refine (unhide H1).mono ?_
    rintro e w1 ⟨rfl, hw1⟩
    obtain rfl := hw1.symm
    clear hw1
    go_wp2_with fail
    refine (unhide H2' _ _ HH.out rfl rfl rfl rfl rfl).mono ?_
    rintro e w2 ⟨rfl, HQ⟩
    go_wp2
    go_ret
    refine ⟨by simp, ⟨_, n, U, X, (HQ.out).1.more, fun j hj => ?_⟩, (Ch.of_below HB.out).trans (HQ.out).2⟩
    by_cases e : j = i
    · subst e; rw [upd_same]; exact HTK.out
    · rw [upd_other _ _ e]; exact HTW.out j hj
  | cons a b =>
    rw [hl] at H2' HTK
    have H1 : Hid (Calls Tryd.prog 18 #[.pointer (some ⟨(P i).g, 0, none⟩)] W fun e w1 => e = .returned (.tuple #[.int .i64 (a : Int), .bool true]) ∧ Hid (Wd w1 B gW m (upd P i ((P i).setW (claimW (P i).fr (P i).to_ (P i).ws (a : Int)))) t n U X ∧ Ch B T4 W w1)) := (take_calls (h.pr hi).sp hT).mono fun e w1 hd => by
      rcases hd with ⟨e0, e1, e2⟩ | ⟨a', b', e1, e2, e3, e4⟩
      · rw [hl] at e0; cases e0
      · rw [hl] at e1
        injection e1 with e1 _
        subst e1
        obtain ⟨q1, q2⟩ := h.words hi e4 e3
        exact ⟨e2, q1, q2.mono (Nat.le_refl _) fun t => T4U⟩
    have hg : (a == a) = true := by simp
    clear h hT htw hall hl
    go_wp2_with fail
    refine (unhide H1).mono ?_
    rintro e w1 ⟨rfl, HQ1⟩
    go_wp2_with fail
    refine (unhide H2' _ _ (HQ1.out).1 (by rw [upd_same]; rfl) (by rw [upd_same]; rfl) (by rw [upd_same]; rfl) (by rw [upd_same]; rfl) (by rw [upd_same]; rfl)).mono ?_
    rintro e w2 ⟨rfl, HQ⟩
    go_wp2
    go_ret
    refine ⟨by simp, ⟨_, n, U, X, (HQ.out).1.more, ?_⟩, ((Ch.of_below HB.out).trans (HQ1.out).2).trans (HQ.out).2⟩
    exact Tws.upd HTW.out HTK.out
set_option maxRecDepth 100000 in
set_option maxHeartbeats 4000000 in
theorem plays_claim {w : World} {B gW m t n : Nat} {P : Nat → Pr} {U : Nat → Value} {X : Nat → List Nat} (h : Wd w B gW m P t n U X) (htw : Tws m P) (hT : Tz w) (hm : 0 < m) (hm6 : m ≤ 6) (_ht : t ≤ 1000) (O N : Int) :
    Calls Tryd.prog 11 #[.pointer (some ⟨gW, 0, none⟩), .agg #[.int .i64 3, .int .i64 O, .int .i64 N]] w fun e w' => e = .returned (.bool true) ∧ Left w w' B gW m t := by
  obtain ⟨vS, vR, vL, vK, NN, h1, h2, h3, h4⟩ := h.blk
  obtain ⟨ss, k1, k2, k3⟩ := h3.s
  obtain ⟨rs, k4, k5, k6⟩ := h3.r
  have hi : pl O m < m := pl_lt hm
  have HI := hide hi
  obtain ⟨gS, cS, hvS, q1, q2, _, hgS⟩ := k2.head (by omega)
  obtain ⟨gR, cR, hvR, q3, q4, _, hgR⟩ := k5.head (by omega)
  rw [k1] at hvS q1
  rw [k4] at hvR q3
  subst hvS hvR
  have HC : Hid (∀ W, Below w.heap.size w W → W.cell? ⟨gW, 0, none⟩ = some (.slice (some ⟨gS, 0, none⟩) m cS) ∧ W.cell? ⟨gW, 1, none⟩ = some (.slice (some ⟨gR, 0, none⟩) m cR) ∧ W.cell? ⟨gS, pl O m, none⟩ = some (.pointer (some ⟨(P (pl O m)).g, 0, none⟩)) ∧ W.cell? ⟨gR, pl O m, none⟩ = some (.pointer (some ⟨(P (pl O m)).g2, 0, none⟩))) := fun W hW => by
    have e : W.heap[gW]? = _ := (hW.block gW (Array.getElem?_eq_some_iff.1 h1).1).trans h1
    refine ⟨cell_of_row W gW 0 _ _ _ e, by rw [cell_of_row W gW 1 _ _ _ e]; rfl, ?_, ?_⟩
    · rw [(k2.below hW).cellAt (by rw [k1]; exact hi), k3 _ hi]
    · rw [(k5.below hW).cellAt (by rw [k4]; exact hi), k6 _ hi]
  have hb0 := alloc_below w (.cells #[.int .i64 3, .int .i64 O, .int .i64 N] 39)
  have hO := heap_alloc_new w (.cells #[.int .i64 3, .int .i64 O, .int .i64 N] 39)
  have HPL : Hid (∀ W, Calls Tryd.prog 15 #[.int .i64 O, .int .i64 (m : Int)] W fun e w' => e = .returned (.int .i64 ((pl O m : Nat) : Int)) ∧ w' = W) := fun W => place4_calls O m hm (by omega) W
  have hiI : ((pl O m : Nat) : Int) < (m : Int) := by omega
  have hi0 : (0 : Int) ≤ ((pl O m : Nat) : Int) := by omega
  have H := hide h
  have HT := hide hT
  have HTW := hide htw
  clear h1 h2 h3 h4 k1 k2 k3 k4 k5 k6 hi h hT htw
  go_enter Tryd.func11, Tryd.ntmps11
  go_wp2_with fail
  generalize w.alloc (.cells #[.int .i64 3, .int .i64 O, .int .i64 N] 39) = W0 at *
  obtain ⟨c0, c1, c2, c3⟩ := unhide HC W0 hb0
  have d0 : W0.cell? ⟨w.heap.size, 0, none⟩ = some (.int .i64 3) := cell_of_row W0 _ 0 _ _ _ hO
  have d1 : W0.cell? ⟨w.heap.size, 1, none⟩ = some (.int .i64 O) := by rw [cell_of_row W0 _ 1 _ _ _ hO]; rfl
  generalize hgO : w.heap.size = gO at *
  have HGO := hide hgO
  have HO := hide hO
  have HB0 := hide hb0
  clear hb0 hO hgO
  go_quiet ((go_at_call 15; exact Calls.quiet_of_same (unhide HPL _)))
  have hbq : Below gO w (W0.drewN nq) := (HB0.out).trans ((drewn_below W0 nq).mono (by rw [← HGO.out]; exact (show w.heap.size ≤ W0.heap.size by have := (HB0.out).size; omega)))
  obtain ⟨c0', c1', c2', c3'⟩ := unhide HC _ hbq
  have hO' := (((drewn_below W0 nq).block gO (Array.getElem?_eq_some_iff.1 HO.out).1).trans HO.out)
  clear c0 c1 c2 c3 d0 d1
  generalize W0.drewN nq = W at *
  rw [← HGO.out] at hbq
  have d0 : W.cell? ⟨gO, 0, none⟩ = some (.int .i64 3) := cell_of_row W _ 0 _ _ _ hO'
  have d2 : W.cell? ⟨gO, 2, none⟩ = some (.int .i64 N) := by rw [cell_of_row W _ 2 _ _ _ hO']; rfl
  have HOW := hide hO'
  have HB := hide hbq
  have h := (H.out).below hbq
  have hT := (HT.out).below hbq
  have htw := HTW.out
  clear hO' hbq HB0 H HT HO
  generalize pl O m = i at *
  have hi := HI.out
  have H1 : Hid (∀ W', Below W.heap.size W W' → Calls Tryd.prog 20 #[.pointer (some ⟨(P i).g, 0, none⟩), .int .i64 N] W' fun e w1 => e = .returned (.bool (hasB (P i).fr (P i).to_ (P i).ws N)) ∧ Ch B T4 W w1 ∧ Hid (Wd w1 B gW m (upd P i ((P i).setW (claimW (P i).fr (P i).to_ (P i).ws N))) t n U X)) := fun W' hW => by
    have hh := h.below hW
    refine (claim_calls (hh.pr hi).sp N).mono ?_
    rintro e w1 ⟨e1, e2, e3⟩
    obtain ⟨q1, q2⟩ := hh.words hi e3 e2
    exact ⟨e1, (Ch.of_below hW).trans (q2.mono (Nat.le_refl _) fun t => T4U), q1⟩
  have H2 : Hid (∀ W1, Ch B T4 W W1 → Hid (Wd W1 B gW m (upd P i ((P i).setW (claimW (P i).fr (P i).to_ (P i).ws N))) t n U X) → Calls Tryd.prog 33 #[.pointer (some ⟨(P i).g2, 0, none⟩), .int .i64 N] W1 fun e w2 => e = .returned (.bool (hasB (P i).fr (P i).to_ (P i).ws N)) ∧ Ch B T4 W w2 ∧ Hid (∃ P', Wd w2 B gW m P' t n U X ∧ Tws m P')) := fun W1 hc hq => by
    have hr := ((hq.out).pr hi).rs
    rw [upd_same] at hr
    refine (rclaim_calls (fr := (P i).fr) (to_ := (P i).to_) (bs := (P i).bs) (gb := (P i).gb) hr N).mono ?_
    rintro e w2 ⟨e1, e2, e3⟩
    obtain ⟨q1, q2⟩ := (hq.out).bits hi (by rw [upd_same]; exact e3) (by rw [upd_same]; exact e2)
    rw [(htw i hi).has N] at e1
    exact ⟨e1, hc.trans (q2.mono (Nat.le_refl _) fun t => T4B), ⟨_, q1, htw.upd ((htw i hi).claim N)⟩⟩
  have HSS : Hid (∀ W', Ch B T4 W W' → Ch B T4 W W' ∧ W'.cell? ⟨gO, 2, none⟩ = some (.int .i64 N)) := fun W' hW => ⟨hW, by rw [cell_of_row W' _ 2 _ _ _ (hW.cells HOW.out T4op)]; rfl⟩
  generalize hasB (P i).fr (P i).to_ (P i).ws N = bb at H1 H2
  have g1 : (bb == bb) = true := by simp
  clear h hT htw
  go_wp2_with fail
  focus (go_region_held3 (fun W' => Ch B T4 W W' ∧ W'.cell? ⟨gO, 2, none⟩ = some (.int .i64 N))
    ((refine unhide HSS _ ?_; repeat (first | assumption | exact Ch.refl _ _ _ | refine Ch.drew ?_)))
    (first
      | (go_at_call 20; refine (unhide H1 _ (by first | assumption | exact (Below.refl _ _).drew)).mono ?_; rintro e w1 ⟨rfl, hc1, HQ1⟩)
      | (go_at_call 33; refine (unhide H2 _ hc1 HQ1).mono ?_; rintro e w2 ⟨rfl, hc2, HQ2⟩)))
  go_wp2
  go_ret
  obtain ⟨P', hw, hq⟩ := HQ2.out
  exact ⟨by simp, ⟨P', n, U, X, hw.more, hq⟩, (Ch.of_below HB.out).trans hc2⟩
set_option maxRecDepth 100000 in
set_option maxHeartbeats 4000000 in
theorem plays_give {w : World} {B gW m t n : Nat} {P : Nat → Pr} {U : Nat → Value} {X : Nat → List Nat} (h : Wd w B gW m P t n U X) (htw : Tws m P) (hT : Tz w) (hm : 0 < m) (hm6 : m ≤ 6) (_ht : t ≤ 1000) (O N : Int) :
    Calls Tryd.prog 11 #[.pointer (some ⟨gW, 0, none⟩), .agg #[.int .i64 4, .int .i64 O, .int .i64 N]] w fun e w' => e = .returned (.bool true) ∧ Left w w' B gW m t := by
  obtain ⟨vS, vR, vL, vK, NN, h1, h2, h3, h4⟩ := h.blk
  obtain ⟨ss, k1, k2, k3⟩ := h3.s
  obtain ⟨rs, k4, k5, k6⟩ := h3.r
  have hi : pl O m < m := pl_lt hm
  have HI := hide hi
  obtain ⟨gS, cS, hvS, q1, q2, _, hgS⟩ := k2.head (by omega)
  obtain ⟨gR, cR, hvR, q3, q4, _, hgR⟩ := k5.head (by omega)
  rw [k1] at hvS q1
  rw [k4] at hvR q3
  subst hvS hvR
  have HC : Hid (∀ W, Below w.heap.size w W → W.cell? ⟨gW, 0, none⟩ = some (.slice (some ⟨gS, 0, none⟩) m cS) ∧ W.cell? ⟨gW, 1, none⟩ = some (.slice (some ⟨gR, 0, none⟩) m cR) ∧ W.cell? ⟨gS, pl O m, none⟩ = some (.pointer (some ⟨(P (pl O m)).g, 0, none⟩)) ∧ W.cell? ⟨gR, pl O m, none⟩ = some (.pointer (some ⟨(P (pl O m)).g2, 0, none⟩))) := fun W hW => by
    have e : W.heap[gW]? = _ := (hW.block gW (Array.getElem?_eq_some_iff.1 h1).1).trans h1
    refine ⟨cell_of_row W gW 0 _ _ _ e, by rw [cell_of_row W gW 1 _ _ _ e]; rfl, ?_, ?_⟩
    · rw [(k2.below hW).cellAt (by rw [k1]; exact hi), k3 _ hi]
    · rw [(k5.below hW).cellAt (by rw [k4]; exact hi), k6 _ hi]
  have hb0 := alloc_below w (.cells #[.int .i64 4, .int .i64 O, .int .i64 N] 39)
  have hO := heap_alloc_new w (.cells #[.int .i64 4, .int .i64 O, .int .i64 N] 39)
  have HPL : Hid (∀ W, Calls Tryd.prog 15 #[.int .i64 O, .int .i64 (m : Int)] W fun e w' => e = .returned (.int .i64 ((pl O m : Nat) : Int)) ∧ w' = W) := fun W => place4_calls O m hm (by omega) W
  have hiI : ((pl O m : Nat) : Int) < (m : Int) := by omega
  have hi0 : (0 : Int) ≤ ((pl O m : Nat) : Int) := by omega
  have H := hide h
  have HT := hide hT
  have HTW := hide htw
  clear h1 h2 h3 h4 k1 k2 k3 k4 k5 k6 hi h hT htw
  go_enter Tryd.func11, Tryd.ntmps11
  go_wp2_with fail
  generalize w.alloc (.cells #[.int .i64 4, .int .i64 O, .int .i64 N] 39) = W0 at *
  obtain ⟨c0, c1, c2, c3⟩ := unhide HC W0 hb0
  have d0 : W0.cell? ⟨w.heap.size, 0, none⟩ = some (.int .i64 4) := cell_of_row W0 _ 0 _ _ _ hO
  have d1 : W0.cell? ⟨w.heap.size, 1, none⟩ = some (.int .i64 O) := by rw [cell_of_row W0 _ 1 _ _ _ hO]; rfl
  generalize hgO : w.heap.size = gO at *
  have HGO := hide hgO
  have HO := hide hO
  have HB0 := hide hb0
  clear hb0 hO hgO
  go_quiet ((go_at_call 15; exact Calls.quiet_of_same (unhide HPL _)))
  have hbq : Below gO w (W0.drewN nq) := (HB0.out).trans ((drewn_below W0 nq).mono (by rw [← HGO.out]; exact (show w.heap.size ≤ W0.heap.size by have := (HB0.out).size; omega)))
  obtain ⟨c0', c1', c2', c3'⟩ := unhide HC _ hbq
  have hO' := (((drewn_below W0 nq).block gO (Array.getElem?_eq_some_iff.1 HO.out).1).trans HO.out)
  clear c0 c1 c2 c3 d0 d1
  generalize W0.drewN nq = W at *
  rw [← HGO.out] at hbq
  have d0 : W.cell? ⟨gO, 0, none⟩ = some (.int .i64 4) := cell_of_row W _ 0 _ _ _ hO'
  have d2 : W.cell? ⟨gO, 2, none⟩ = some (.int .i64 N) := by rw [cell_of_row W _ 2 _ _ _ hO']; rfl
  have HOW := hide hO'
  have HB := hide hbq
  have h := (H.out).below hbq
  have hT := (HT.out).below hbq
  have htw := HTW.out
  clear hO' hbq HB0 H HT HO
  generalize pl O m = i at *
  have hi := HI.out
  have H1 : Hid (∀ W', Below W.heap.size W W' → Calls Tryd.prog 21 #[.pointer (some ⟨(P i).g, 0, none⟩), .int .i64 N] W' fun e w1 => e = .returned (.bool (giveB (P i).fr (P i).to_ (P i).ws N)) ∧ Ch B T4 W w1 ∧ Hid (Wd w1 B gW m (upd P i ((P i).setW (giveW (P i).fr (P i).to_ (P i).ws N))) t n U X)) := fun W' hW => by
    have hh := h.below hW
    refine (give_calls (hh.pr hi).sp N).mono ?_
    rintro e w1 ⟨e1, e2, e3⟩
    obtain ⟨q1, q2⟩ := hh.words hi e3 e2
    exact ⟨e1, (Ch.of_below hW).trans (q2.mono (Nat.le_refl _) fun t => T4U), q1⟩
  have H2 : Hid (∀ W1, Ch B T4 W W1 → Hid (Wd W1 B gW m (upd P i ((P i).setW (giveW (P i).fr (P i).to_ (P i).ws N))) t n U X) → Calls Tryd.prog 34 #[.pointer (some ⟨(P i).g2, 0, none⟩), .int .i64 N] W1 fun e w2 => e = .returned (.bool (giveB (P i).fr (P i).to_ (P i).ws N)) ∧ Ch B T4 W w2 ∧ Hid (∃ P', Wd w2 B gW m P' t n U X ∧ Tws m P')) := fun W1 hc hq => by
    have hr := ((hq.out).pr hi).rs
    rw [upd_same] at hr
    refine (rgive_calls (fr := (P i).fr) (to_ := (P i).to_) (bs := (P i).bs) (gb := (P i).gb) hr N).mono ?_
    rintro e w2 ⟨e1, e2, e3⟩
    obtain ⟨q1, q2⟩ := (hq.out).bits hi (by rw [upd_same]; exact e3) (by rw [upd_same]; exact e2)
    rw [(htw i hi).giveB N] at e1
    exact ⟨e1, hc.trans (q2.mono (Nat.le_refl _) fun t => T4B), ⟨_, q1, htw.upd ((htw i hi).give N)⟩⟩
  have HSS : Hid (∀ W', Ch B T4 W W' → Ch B T4 W W' ∧ W'.cell? ⟨gO, 2, none⟩ = some (.int .i64 N)) := fun W' hW => ⟨hW, by rw [cell_of_row W' _ 2 _ _ _ (hW.cells HOW.out T4op)]; rfl⟩
  generalize giveB (P i).fr (P i).to_ (P i).ws N = bb at H1 H2
  have g1 : (bb == bb) = true := by simp
  clear h hT htw
  go_wp2_with fail
  focus (go_region_held3 (fun W' => Ch B T4 W W' ∧ W'.cell? ⟨gO, 2, none⟩ = some (.int .i64 N))
    ((refine unhide HSS _ ?_; repeat (first | assumption | exact Ch.refl _ _ _ | refine Ch.drew ?_)))
    (first
      | (go_at_call 21; refine (unhide H1 _ (by first | assumption | exact (Below.refl _ _).drew)).mono ?_; rintro e w1 ⟨rfl, hc1, HQ1⟩)
      | (go_at_call 34; refine (unhide H2 _ hc1 HQ1).mono ?_; rintro e w2 ⟨rfl, hc2, HQ2⟩)))
  go_wp2
  go_ret
  obtain ⟨P', hw, hq⟩ := HQ2.out
  exact ⟨by simp, ⟨P', n, U, X, hw.more, hq⟩, (Ch.of_below HB.out).trans hc2⟩
set_option maxRecDepth 100000 in
set_option maxHeartbeats 4000000 in
theorem plays_has {w : World} {B gW m t n : Nat} {P : Nat → Pr} {U : Nat → Value} {X : Nat → List Nat} (h : Wd w B gW m P t n U X) (htw : Tws m P) (hT : Tz w) (hm : 0 < m) (hm6 : m ≤ 6) (_ht : t ≤ 1000) (O N : Int) :
    Calls Tryd.prog 11 #[.pointer (some ⟨gW, 0, none⟩), .agg #[.int .i64 5, .int .i64 O, .int .i64 N]] w fun e w' => e = .returned (.bool true) ∧ Left w w' B gW m t := by
  obtain ⟨vS, vR, vL, vK, NN, h1, h2, h3, h4⟩ := h.blk
  obtain ⟨ss, k1, k2, k3⟩ := h3.s
  obtain ⟨rs, k4, k5, k6⟩ := h3.r
  have hi : pl O m < m := pl_lt hm
  have HI := hide hi
  obtain ⟨gS, cS, hvS, q1, q2, _, hgS⟩ := k2.head (by omega)
  obtain ⟨gR, cR, hvR, q3, q4, _, hgR⟩ := k5.head (by omega)
  rw [k1] at hvS q1
  rw [k4] at hvR q3
  subst hvS hvR
  have HC : Hid (∀ W, Below w.heap.size w W → W.cell? ⟨gW, 0, none⟩ = some (.slice (some ⟨gS, 0, none⟩) m cS) ∧ W.cell? ⟨gW, 1, none⟩ = some (.slice (some ⟨gR, 0, none⟩) m cR) ∧ W.cell? ⟨gS, pl O m, none⟩ = some (.pointer (some ⟨(P (pl O m)).g, 0, none⟩)) ∧ W.cell? ⟨gR, pl O m, none⟩ = some (.pointer (some ⟨(P (pl O m)).g2, 0, none⟩))) := fun W hW => by
    have e : W.heap[gW]? = _ := (hW.block gW (Array.getElem?_eq_some_iff.1 h1).1).trans h1
    refine ⟨cell_of_row W gW 0 _ _ _ e, by rw [cell_of_row W gW 1 _ _ _ e]; rfl, ?_, ?_⟩
    · rw [(k2.below hW).cellAt (by rw [k1]; exact hi), k3 _ hi]
    · rw [(k5.below hW).cellAt (by rw [k4]; exact hi), k6 _ hi]
  have hb0 := alloc_below w (.cells #[.int .i64 5, .int .i64 O, .int .i64 N] 39)
  have hO := heap_alloc_new w (.cells #[.int .i64 5, .int .i64 O, .int .i64 N] 39)
  have HPL : Hid (∀ W, Calls Tryd.prog 15 #[.int .i64 O, .int .i64 (m : Int)] W fun e w' => e = .returned (.int .i64 ((pl O m : Nat) : Int)) ∧ w' = W) := fun W => place4_calls O m hm (by omega) W
  have hiI : ((pl O m : Nat) : Int) < (m : Int) := by omega
  have hi0 : (0 : Int) ≤ ((pl O m : Nat) : Int) := by omega
  have H := hide h
  have HT := hide hT
  have HTW := hide htw
  clear h1 h2 h3 h4 k1 k2 k3 k4 k5 k6 hi h hT htw
  go_enter Tryd.func11, Tryd.ntmps11
  go_wp2_with fail
  generalize w.alloc (.cells #[.int .i64 5, .int .i64 O, .int .i64 N] 39) = W0 at *
  obtain ⟨c0, c1, c2, c3⟩ := unhide HC W0 hb0
  have d0 : W0.cell? ⟨w.heap.size, 0, none⟩ = some (.int .i64 5) := cell_of_row W0 _ 0 _ _ _ hO
  have d1 : W0.cell? ⟨w.heap.size, 1, none⟩ = some (.int .i64 O) := by rw [cell_of_row W0 _ 1 _ _ _ hO]; rfl
  generalize hgO : w.heap.size = gO at *
  have HGO := hide hgO
  have HO := hide hO
  have HB0 := hide hb0
  clear hb0 hO hgO
  go_quiet ((go_at_call 15; exact Calls.quiet_of_same (unhide HPL _)))
  have hbq : Below gO w (W0.drewN nq) := (HB0.out).trans ((drewn_below W0 nq).mono (by rw [← HGO.out]; exact (show w.heap.size ≤ W0.heap.size by have := (HB0.out).size; omega)))
  obtain ⟨c0', c1', c2', c3'⟩ := unhide HC _ hbq
  have hO' := (((drewn_below W0 nq).block gO (Array.getElem?_eq_some_iff.1 HO.out).1).trans HO.out)
  clear c0 c1 c2 c3 d0 d1
  generalize W0.drewN nq = W at *
  rw [← HGO.out] at hbq
  have d0 : W.cell? ⟨gO, 0, none⟩ = some (.int .i64 5) := cell_of_row W _ 0 _ _ _ hO'
  have d2 : W.cell? ⟨gO, 2, none⟩ = some (.int .i64 N) := by rw [cell_of_row W _ 2 _ _ _ hO']; rfl
  have HOW := hide hO'
  have HB := hide hbq
  have h := (H.out).below hbq
  have hT := (HT.out).below hbq
  have htw := HTW.out
  clear hO' hbq HB0 H HT HO
  generalize pl O m = i at *
  have hi := HI.out
  have H1 : Hid (∀ W', Below W.heap.size W W' → Calls Tryd.prog 25 #[.pointer (some ⟨(P i).g, 0, none⟩), .int .i64 N] W' fun e w1 => e = .returned (.bool (hasB (P i).fr (P i).to_ (P i).ws N)) ∧ Below W.heap.size W w1) := fun W' hW =>
    (has_calls ((h.below hW).pr hi).sp N).mono fun e w1 ⟨e1, e2⟩ => ⟨e1, hW.trans (e2.mono hW.size)⟩
  have H2 : Hid (∀ W', Below W.heap.size W W' → Calls Tryd.prog 35 #[.pointer (some ⟨(P i).g2, 0, none⟩), .int .i64 N] W' fun e w1 => e = .returned (.bool (hasB (P i).fr (P i).to_ (P i).ws N)) ∧ Below W.heap.size W w1) := fun W' hW =>
    (rhas_calls ((h.below hW).pr hi).rs N).mono fun e w1 ⟨e1, e2⟩ => ⟨by rw [← (htw i hi).has N]; exact e1, hW.trans (e2.mono hW.size)⟩
  have HSS : Hid (∀ W', Below W.heap.size W W' → Below W.heap.size W W' ∧ W'.cell? ⟨gO, 2, none⟩ = some (.int .i64 N)) := fun W' hW => ⟨hW, (hW.cell (p := ⟨gO, 2, none⟩) (World.block_lt_of_cell? _ _ d2)).trans d2⟩
  have h' := hide h.more
  generalize hasB (P i).fr (P i).to_ (P i).ws N = bb at H1 H2
  have g1 : (bb == bb) = true := by simp
  clear h hT htw
  go_wp2_with fail
  focus (go_region_held3 (fun W' => Below W.heap.size W W' ∧ W'.cell? ⟨gO, 2, none⟩ = some (.int .i64 N))
    ((refine unhide HSS _ ?_; repeat (first | assumption | exact Below.refl _ _ | refine Below.drew ?_)))
    (first
      | (go_at_call 25; refine (unhide H1 _ (by first | assumption | exact (Below.refl _ _).drew)).mono ?_; rintro e w1 ⟨rfl, hb1⟩)
      | (go_at_call 35; refine (unhide H2 _ (by first | assumption | exact (Below.refl _ _).drew)).mono ?_; rintro e w2 ⟨rfl, hb2⟩)))
  go_wp2
  go_ret
  exact ⟨by simp, ⟨P, n, U, X, (h'.out).below hb2, HTW.out⟩, (Ch.of_below HB.out).trans (Ch.of_below hb2)⟩
set_option maxRecDepth 100000 in
set_option maxHeartbeats 4000000 in
theorem plays_list {w : World} {B gW m t n : Nat} {P : Nat → Pr} {U : Nat → Value} {X : Nat → List Nat} (h : Wd w B gW m P t n U X) (htw : Tws m P) (hT : Tz w) (hm : 0 < m) (hm6 : m ≤ 6) (ht : t ≤ 1000) (O N : Int) :
    Calls Tryd.prog 11 #[.pointer (some ⟨gW, 0, none⟩), .agg #[.int .i64 7, .int .i64 O, .int .i64 N]] w fun e w' => e = .returned (.bool true) ∧ Left w w' B gW m t := by
  obtain ⟨vS, vR, vL, vK, NN, h1, h2, h3, h4⟩ := h.blk
  obtain ⟨ss, k1, k2, k3⟩ := h3.s
  obtain ⟨rs, k4, k5, k6⟩ := h3.r
  have hi : pl O m < m := pl_lt hm
  have HI := hide hi
  obtain ⟨gS, cS, hvS, q1, q2, _, hgS⟩ := k2.head (by omega)
  obtain ⟨gR, cR, hvR, q3, q4, _, hgR⟩ := k5.head (by omega)
  rw [k1] at hvS q1
  rw [k4] at hvR q3
  subst hvS hvR
  have HC : Hid (∀ W, Below w.heap.size w W → W.cell? ⟨gW, 0, none⟩ = some (.slice (some ⟨gS, 0, none⟩) m cS) ∧ W.cell? ⟨gW, 1, none⟩ = some (.slice (some ⟨gR, 0, none⟩) m cR) ∧ W.cell? ⟨gS, pl O m, none⟩ = some (.pointer (some ⟨(P (pl O m)).g, 0, none⟩)) ∧ W.cell? ⟨gR, pl O m, none⟩ = some (.pointer (some ⟨(P (pl O m)).g2, 0, none⟩))) := fun W hW => by
    have e : W.heap[gW]? = _ := (hW.block gW (Array.getElem?_eq_some_iff.1 h1).1).trans h1
    refine ⟨cell_of_row W gW 0 _ _ _ e, by rw [cell_of_row W gW 1 _ _ _ e]; rfl, ?_, ?_⟩
    · rw [(k2.below hW).cellAt (by rw [k1]; exact hi), k3 _ hi]
    · rw [(k5.below hW).cellAt (by rw [k4]; exact hi), k6 _ hi]
  have hb0 := alloc_below w (.cells #[.int .i64 7, .int .i64 O, .int .i64 N] 39)
  have hO := heap_alloc_new w (.cells #[.int .i64 7, .int .i64 O, .int .i64 N] 39)
  have HPL : Hid (∀ W, Calls Tryd.prog 15 #[.int .i64 O, .int .i64 (m : Int)] W fun e w' => e = .returned (.int .i64 ((pl O m : Nat) : Int)) ∧ w' = W) := fun W => place4_calls O m hm (by omega) W
  have hiI : ((pl O m : Nat) : Int) < (m : Int) := by omega
  have hi0 : (0 : Int) ≤ ((pl O m : Nat) : Int) := by omega
  have H := hide h
  have HT := hide hT
  have HTW := hide htw
  clear h1 h2 h3 h4 k1 k2 k3 k4 k5 k6 hi h hT htw
  go_enter Tryd.func11, Tryd.ntmps11
  go_wp2_with fail
  generalize w.alloc (.cells #[.int .i64 7, .int .i64 O, .int .i64 N] 39) = W0 at *
  obtain ⟨c0, c1, c2, c3⟩ := unhide HC W0 hb0
  have d0 : W0.cell? ⟨w.heap.size, 0, none⟩ = some (.int .i64 7) := cell_of_row W0 _ 0 _ _ _ hO
  have d1 : W0.cell? ⟨w.heap.size, 1, none⟩ = some (.int .i64 O) := by rw [cell_of_row W0 _ 1 _ _ _ hO]; rfl
  generalize hgO : w.heap.size = gO at *
  have HGO := hide hgO
  have HO := hide hO
  have HB0 := hide hb0
  clear hb0 hO hgO
  go_quiet ((go_at_call 15; exact Calls.quiet_of_same (unhide HPL _)))
  have hbq : Below gO w (W0.drewN nq) := (HB0.out).trans ((drewn_below W0 nq).mono (by rw [← HGO.out]; exact (show w.heap.size ≤ W0.heap.size by have := (HB0.out).size; omega)))
  obtain ⟨c0', c1', c2', c3'⟩ := unhide HC _ hbq
  have hO' := (((drewn_below W0 nq).block gO (Array.getElem?_eq_some_iff.1 HO.out).1).trans HO.out)
  clear c0 c1 c2 c3 d0 d1
  generalize W0.drewN nq = W at *
  rw [← HGO.out] at hbq
  have d0 : W.cell? ⟨gO, 0, none⟩ = some (.int .i64 7) := cell_of_row W _ 0 _ _ _ hO'
  have d2 : W.cell? ⟨gO, 2, none⟩ = some (.int .i64 N) := by rw [cell_of_row W _ 2 _ _ _ hO']; rfl
  have HOW := hide hO'
  have HB := hide hbq
  have h := (H.out).below hbq
  have hT := (HT.out).below hbq
  have htw := HTW.out
  clear hO' hbq HB0 H HT HO
  generalize pl O m = i at *
  have hi := HI.out
  have H1 := hide (lists_list h htw hT hi ht O N)
  have HL : Hid (∀ w2, Left W w2 B gW m t → Left w w2 B gW m t) := fun w2 hl => hl.of_below HB.out
  have d1 : W.cell? ⟨gO, 1, none⟩ = some (.int .i64 O) := by rw [cell_of_row W _ 1 _ _ _ HOW.out]; rfl
  clear h hT htw
  go_wp2_with fail
  refine (unhide H1).mono ?_
  rintro e w1 ⟨rfl, hl⟩
  have HL1 := hide hl
  clear hl
  go_wp2
  go_ret
  exact ⟨rfl, unhide HL w1 HL1.out⟩
set_option maxRecDepth 100000 in
set_option maxHeartbeats 4000000 in
theorem plays_fill {w : World} {B gW m t n : Nat} {P : Nat → Pr} {U : Nat → Value} {X : Nat → List Nat} (h : Wd w B gW m P t n U X) (htw : Tws m P) (hT : Tz w) (hm : 0 < m) (hm6 : m ≤ 6) (ht : t ≤ 1000) (O N : Int) :
    Calls Tryd.prog 11 #[.pointer (some ⟨gW, 0, none⟩), .agg #[.int .i64 9, .int .i64 O, .int .i64 N]] w fun e w' => e = .returned (.bool true) ∧ Left w w' B gW m t := by
  obtain ⟨vS, vR, vL, vK, NN, h1, h2, h3, h4⟩ := h.blk
  obtain ⟨ss, k1, k2, k3⟩ := h3.s
  obtain ⟨rs, k4, k5, k6⟩ := h3.r
  have hi : pl O m < m := pl_lt hm
  have HI := hide hi
  obtain ⟨gS, cS, hvS, q1, q2, _, hgS⟩ := k2.head (by omega)
  obtain ⟨gR, cR, hvR, q3, q4, _, hgR⟩ := k5.head (by omega)
  rw [k1] at hvS q1
  rw [k4] at hvR q3
  subst hvS hvR
  have HC : Hid (∀ W, Below w.heap.size w W → W.cell? ⟨gW, 0, none⟩ = some (.slice (some ⟨gS, 0, none⟩) m cS) ∧ W.cell? ⟨gW, 1, none⟩ = some (.slice (some ⟨gR, 0, none⟩) m cR) ∧ W.cell? ⟨gS, pl O m, none⟩ = some (.pointer (some ⟨(P (pl O m)).g, 0, none⟩)) ∧ W.cell? ⟨gR, pl O m, none⟩ = some (.pointer (some ⟨(P (pl O m)).g2, 0, none⟩))) := fun W hW => by
    have e : W.heap[gW]? = _ := (hW.block gW (Array.getElem?_eq_some_iff.1 h1).1).trans h1
    refine ⟨cell_of_row W gW 0 _ _ _ e, by rw [cell_of_row W gW 1 _ _ _ e]; rfl, ?_, ?_⟩
    · rw [(k2.below hW).cellAt (by rw [k1]; exact hi), k3 _ hi]
    · rw [(k5.below hW).cellAt (by rw [k4]; exact hi), k6 _ hi]
  have hb0 := alloc_below w (.cells #[.int .i64 9, .int .i64 O, .int .i64 N] 39)
  have hO := heap_alloc_new w (.cells #[.int .i64 9, .int .i64 O, .int .i64 N] 39)
  have HPL : Hid (∀ W, Calls Tryd.prog 15 #[.int .i64 O, .int .i64 (m : Int)] W fun e w' => e = .returned (.int .i64 ((pl O m : Nat) : Int)) ∧ w' = W) := fun W => place4_calls O m hm (by omega) W
  have hiI : ((pl O m : Nat) : Int) < (m : Int) := by omega
  have hi0 : (0 : Int) ≤ ((pl O m : Nat) : Int) := by omega
  have H := hide h
  have HT := hide hT
  have HTW := hide htw
  clear h1 h2 h3 h4 k1 k2 k3 k4 k5 k6 hi h hT htw
  go_enter Tryd.func11, Tryd.ntmps11
  go_wp2_with fail
  generalize w.alloc (.cells #[.int .i64 9, .int .i64 O, .int .i64 N] 39) = W0 at *
  obtain ⟨c0, c1, c2, c3⟩ := unhide HC W0 hb0
  have d0 : W0.cell? ⟨w.heap.size, 0, none⟩ = some (.int .i64 9) := cell_of_row W0 _ 0 _ _ _ hO
  have d1 : W0.cell? ⟨w.heap.size, 1, none⟩ = some (.int .i64 O) := by rw [cell_of_row W0 _ 1 _ _ _ hO]; rfl
  generalize hgO : w.heap.size = gO at *
  have HGO := hide hgO
  have HO := hide hO
  have HB0 := hide hb0
  clear hb0 hO hgO
  go_quiet ((go_at_call 15; exact Calls.quiet_of_same (unhide HPL _)))
  have hbq : Below gO w (W0.drewN nq) := (HB0.out).trans ((drewn_below W0 nq).mono (by rw [← HGO.out]; exact (show w.heap.size ≤ W0.heap.size by have := (HB0.out).size; omega)))
  obtain ⟨c0', c1', c2', c3'⟩ := unhide HC _ hbq
  have hO' := (((drewn_below W0 nq).block gO (Array.getElem?_eq_some_iff.1 HO.out).1).trans HO.out)
  clear c0 c1 c2 c3 d0 d1
  generalize W0.drewN nq = W at *
  rw [← HGO.out] at hbq
  have d0 : W.cell? ⟨gO, 0, none⟩ = some (.int .i64 9) := cell_of_row W _ 0 _ _ _ hO'
  have d2 : W.cell? ⟨gO, 2, none⟩ = some (.int .i64 N) := by rw [cell_of_row W _ 2 _ _ _ hO']; rfl
  have HOW := hide hO'
  have HB := hide hbq
  have h := (H.out).below hbq
  have hT := (HT.out).below hbq
  have htw := HTW.out
  clear hO' hbq HB0 H HT HO
  generalize pl O m = i at *
  have hi := HI.out
  have H1 := hide (lists_take h htw hT hi ht 9 O N _ (Nat.le_refl _) (Or.inl ⟨rfl, rfl⟩))
  have HL : Hid (∀ w2, Left W w2 B gW m t → Left w w2 B gW m t) := fun w2 hl => hl.of_below HB.out
  have d1 : W.cell? ⟨gO, 1, none⟩ = some (.int .i64 O) := by rw [cell_of_row W _ 1 _ _ _ HOW.out]; rfl
  clear h hT htw
  go_wp2_with fail
  refine (unhide H1).mono ?_
  rintro e w1 ⟨rfl, hl⟩
  have HL1 := hide hl
  clear hl
  go_wp2
  go_ret
  exact ⟨rfl, unhide HL w1 HL1.out⟩
set_option maxRecDepth 100000 in
set_option maxHeartbeats 4000000 in
theorem plays_all {w : World} {B gW m t n : Nat} {P : Nat → Pr} {U : Nat → Value} {X : Nat → List Nat} (h : Wd w B gW m P t n U X) (htw : Tws m P) (hT : Tz w) (hm : 0 < m) (hm6 : m ≤ 6) (ht : t ≤ 1000) (O N : Int) (k : Nat) (HN : Hid (N = (k : Int))) (HKK : Hid (k ≤ freeN (P (pl O m)).ws)) :
    Calls Tryd.prog 11 #[.pointer (some ⟨gW, 0, none⟩), .agg #[.int .i64 2, .int .i64 O, .int .i64 N]] w fun e w' => e = .returned (.bool true) ∧ Left w w' B gW m t := by
  obtain ⟨vS, vR, vL, vK, NN, h1, h2, h3, h4⟩ := h.blk
  obtain ⟨ss, k1, k2, k3⟩ := h3.s
  obtain ⟨rs, k4, k5, k6⟩ := h3.r
  have hi : pl O m < m := pl_lt hm
  have HI := hide hi
  obtain ⟨gS, cS, hvS, q1, q2, _, hgS⟩ := k2.head (by omega)
  obtain ⟨gR, cR, hvR, q3, q4, _, hgR⟩ := k5.head (by omega)
  rw [k1] at hvS q1
  rw [k4] at hvR q3
  subst hvS hvR
  have HC : Hid (∀ W, Below w.heap.size w W → W.cell? ⟨gW, 0, none⟩ = some (.slice (some ⟨gS, 0, none⟩) m cS) ∧ W.cell? ⟨gW, 1, none⟩ = some (.slice (some ⟨gR, 0, none⟩) m cR) ∧ W.cell? ⟨gS, pl O m, none⟩ = some (.pointer (some ⟨(P (pl O m)).g, 0, none⟩)) ∧ W.cell? ⟨gR, pl O m, none⟩ = some (.pointer (some ⟨(P (pl O m)).g2, 0, none⟩))) := fun W hW => by
    have e : W.heap[gW]? = _ := (hW.block gW (Array.getElem?_eq_some_iff.1 h1).1).trans h1
    refine ⟨cell_of_row W gW 0 _ _ _ e, by rw [cell_of_row W gW 1 _ _ _ e]; rfl, ?_, ?_⟩
    · rw [(k2.below hW).cellAt (by rw [k1]; exact hi), k3 _ hi]
    · rw [(k5.below hW).cellAt (by rw [k4]; exact hi), k6 _ hi]
  have hb0 := alloc_below w (.cells #[.int .i64 2, .int .i64 O, .int .i64 N] 39)
  have hO := heap_alloc_new w (.cells #[.int .i64 2, .int .i64 O, .int .i64 N] 39)
  have HPL : Hid (∀ W, Calls Tryd.prog 15 #[.int .i64 O, .int .i64 (m : Int)] W fun e w' => e = .returned (.int .i64 ((pl O m : Nat) : Int)) ∧ w' = W) := fun W => place4_calls O m hm (by omega) W
  have hiI : ((pl O m : Nat) : Int) < (m : Int) := by omega
  have hi0 : (0 : Int) ≤ ((pl O m : Nat) : Int) := by omega
  have H := hide h
  have HT := hide hT
  have HTW := hide htw
  clear h1 h2 h3 h4 k1 k2 k3 k4 k5 k6 hi h hT htw
  go_enter Tryd.func11, Tryd.ntmps11
  go_wp2_with fail
  generalize w.alloc (.cells #[.int .i64 2, .int .i64 O, .int .i64 N] 39) = W0 at *
  obtain ⟨c0, c1, c2, c3⟩ := unhide HC W0 hb0
  have d0 : W0.cell? ⟨w.heap.size, 0, none⟩ = some (.int .i64 2) := cell_of_row W0 _ 0 _ _ _ hO
  have d1 : W0.cell? ⟨w.heap.size, 1, none⟩ = some (.int .i64 O) := by rw [cell_of_row W0 _ 1 _ _ _ hO]; rfl
  generalize hgO : w.heap.size = gO at *
  have HGO := hide hgO
  have HO := hide hO
  have HB0 := hide hb0
  clear hb0 hO hgO
  go_quiet ((go_at_call 15; exact Calls.quiet_of_same (unhide HPL _)))
  have hbq : Below gO w (W0.drewN nq) := (HB0.out).trans ((drewn_below W0 nq).mono (by rw [← HGO.out]; exact (show w.heap.size ≤ W0.heap.size by have := (HB0.out).size; omega)))
  obtain ⟨c0', c1', c2', c3'⟩ := unhide HC _ hbq
  have hO' := (((drewn_below W0 nq).block gO (Array.getElem?_eq_some_iff.1 HO.out).1).trans HO.out)
  clear c0 c1 c2 c3 d0 d1
  generalize W0.drewN nq = W at *
  rw [← HGO.out] at hbq
  have d0 : W.cell? ⟨gO, 0, none⟩ = some (.int .i64 2) := cell_of_row W _ 0 _ _ _ hO'
  have d2 : W.cell? ⟨gO, 2, none⟩ = some (.int .i64 N) := by rw [cell_of_row W _ 2 _ _ _ hO']; rfl
  have HOW := hide hO'
  have HB := hide hbq
  have h := (H.out).below hbq
  have hT := (HT.out).below hbq
  have htw := HTW.out
  clear hO' hbq HB0 H HT HO
  generalize pl O m = i at *
  have hi := HI.out
  have H1 := hide (lists_take h htw hT hi ht 2 O N k HKK.out (Or.inr ⟨by decide, by decide, HN.out⟩))
  have HL : Hid (∀ w2, Left W w2 B gW m t → Left w w2 B gW m t) := fun w2 hl => hl.of_below HB.out
  have d1 : W.cell? ⟨gO, 1, none⟩ = some (.int .i64 O) := by rw [cell_of_row W _ 1 _ _ _ HOW.out]; rfl
  clear h hT htw HKK HN
  go_wp2_with fail
  refine (unhide H1).mono ?_
  rintro e w1 ⟨rfl, hl⟩
  have HL1 := hide hl
  clear hl
  go_wp2
  go_ret
  exact ⟨rfl, unhide HL w1 HL1.out⟩
set_option maxRecDepth 100000 in
set_option maxHeartbeats 4000000 in
theorem plays_no {w : World} {B gW m t n : Nat} {P : Nat → Pr} {U : Nat → Value} {X : Nat → List Nat} (h : Wd w B gW m P t n U X) (htw : Tws m P) (hT : Tz w) (hm : 0 < m) (hm6 : m ≤ 6) (ht : t ≤ 1000) (O N : Int) (HN : Hid (N < 0 ∨ ((freeN (P (pl O m)).ws : Nat) : Int) < N)) :
    Calls Tryd.prog 11 #[.pointer (some ⟨gW, 0, none⟩), .agg #[.int .i64 2, .int .i64 O, .int .i64 N]] w fun e w' => e = .returned (.bool true) ∧ Left w w' B gW m t := by
  obtain ⟨vS, vR, vL, vK, NN, h1, h2, h3, h4⟩ := h.blk
  obtain ⟨ss, k1, k2, k3⟩ := h3.s
  obtain ⟨rs, k4, k5, k6⟩ := h3.r
  have hi : pl O m < m := pl_lt hm
  have HI := hide hi
  obtain ⟨gS, cS, hvS, q1, q2, _, hgS⟩ := k2.head (by omega)
  obtain ⟨gR, cR, hvR, q3, q4, _, hgR⟩ := k5.head (by omega)
  rw [k1] at hvS q1
  rw [k4] at hvR q3
  subst hvS hvR
  have HC : Hid (∀ W, Below w.heap.size w W → W.cell? ⟨gW, 0, none⟩ = some (.slice (some ⟨gS, 0, none⟩) m cS) ∧ W.cell? ⟨gW, 1, none⟩ = some (.slice (some ⟨gR, 0, none⟩) m cR) ∧ W.cell? ⟨gS, pl O m, none⟩ = some (.pointer (some ⟨(P (pl O m)).g, 0, none⟩)) ∧ W.cell? ⟨gR, pl O m, none⟩ = some (.pointer (some ⟨(P (pl O m)).g2, 0, none⟩))) := fun W hW => by
    have e : W.heap[gW]? = _ := (hW.block gW (Array.getElem?_eq_some_iff.1 h1).1).trans h1
    refine ⟨cell_of_row W gW 0 _ _ _ e, by rw [cell_of_row W gW 1 _ _ _ e]; rfl, ?_, ?_⟩
    · rw [(k2.below hW).cellAt (by rw [k1]; exact hi), k3 _ hi]
    · rw [(k5.below hW).cellAt (by rw [k4]; exact hi), k6 _ hi]
  have hb0 := alloc_below w (.cells #[.int .i64 2, .int .i64 O, .int .i64 N] 39)
  have hO := heap_alloc_new w (.cells #[.int .i64 2, .int .i64 O, .int .i64 N] 39)
  have HPL : Hid (∀ W, Calls Tryd.prog 15 #[.int .i64 O, .int .i64 (m : Int)] W fun e w' => e = .returned (.int .i64 ((pl O m : Nat) : Int)) ∧ w' = W) := fun W => place4_calls O m hm (by omega) W
  have hiI : ((pl O m : Nat) : Int) < (m : Int) := by omega
  have hi0 : (0 : Int) ≤ ((pl O m : Nat) : Int) := by omega
  have H := hide h
  have HT := hide hT
  have HTW := hide htw
  clear h1 h2 h3 h4 k1 k2 k3 k4 k5 k6 hi h hT htw
  go_enter Tryd.func11, Tryd.ntmps11
  go_wp2_with fail
  generalize w.alloc (.cells #[.int .i64 2, .int .i64 O, .int .i64 N] 39) = W0 at *
  obtain ⟨c0, c1, c2, c3⟩ := unhide HC W0 hb0
  have d0 : W0.cell? ⟨w.heap.size, 0, none⟩ = some (.int .i64 2) := cell_of_row W0 _ 0 _ _ _ hO
  have d1 : W0.cell? ⟨w.heap.size, 1, none⟩ = some (.int .i64 O) := by rw [cell_of_row W0 _ 1 _ _ _ hO]; rfl
  generalize hgO : w.heap.size = gO at *
  have HGO := hide hgO
  have HO := hide hO
  have HB0 := hide hb0
  clear hb0 hO hgO
  go_quiet ((go_at_call 15; exact Calls.quiet_of_same (unhide HPL _)))
  have hbq : Below gO w (W0.drewN nq) := (HB0.out).trans ((drewn_below W0 nq).mono (by rw [← HGO.out]; exact (show w.heap.size ≤ W0.heap.size by have := (HB0.out).size; omega)))
  obtain ⟨c0', c1', c2', c3'⟩ := unhide HC _ hbq
  have hO' := (((drewn_below W0 nq).block gO (Array.getElem?_eq_some_iff.1 HO.out).1).trans HO.out)
  clear c0 c1 c2 c3 d0 d1
  generalize W0.drewN nq = W at *
  rw [← HGO.out] at hbq
  have d0 : W.cell? ⟨gO, 0, none⟩ = some (.int .i64 2) := cell_of_row W _ 0 _ _ _ hO'
  have d2 : W.cell? ⟨gO, 2, none⟩ = some (.int .i64 N) := by rw [cell_of_row W _ 2 _ _ _ hO']; rfl
  have HOW := hide hO'
  have HB := hide hbq
  have h := (H.out).below hbq
  have hT := (HT.out).below hbq
  have htw := HTW.out
  clear hO' hbq HB0 H HT HO
  generalize pl O m = i at *
  have hi := HI.out
  have H1 := hide (lists_no h htw hi ht 2 O N (by decide) (by decide) HN.out)
  have HL : Hid (∀ w2, Left W w2 B gW m t → Left w w2 B gW m t) := fun w2 hl => hl.of_below HB.out
  have d1 : W.cell? ⟨gO, 1, none⟩ = some (.int .i64 O) := by rw [cell_of_row W _ 1 _ _ _ HOW.out]; rfl
  clear h hT htw HN
  go_wp2_with fail
  refine (unhide H1).mono ?_
  rintro e w1 ⟨rfl, hl⟩
  have HL1 := hide hl
  clear hl
  go_wp2
  go_ret
  exact ⟨rfl, unhide HL w1 HL1.out⟩
set_option maxRecDepth 100000 in
set_option maxHeartbeats 4000000 in
theorem plays_none {w : World} {B gW m t n : Nat} {P : Nat → Pr} {U : Nat → Value} {X : Nat → List Nat} (h : Wd w B gW m P t n U X) (htw : Tws m P) (hT : Tz w) (hm : 0 < m) (hm6 : m ≤ 6) (_ht : t ≤ 1000) (K O N : Int) (HK : Hid ((K == 1) = false ∧ (K == 2) = false ∧ (K == 3) = false ∧ (K == 4) = false ∧ (K == 5) = false ∧ (K == 6) = false ∧ (K == 7) = false ∧ (K == 8) = false ∧ (K == 9) = false)) :
    Calls Tryd.prog 11 #[.pointer (some ⟨gW, 0, none⟩), .agg #[.int .i64 K, .int .i64 O, .int .i64 N]] w fun e w' => e = .returned (.bool true) ∧ Left w w' B gW m t := by
  obtain ⟨vS, vR, vL, vK, NN, h1, h2, h3, h4⟩ := h.blk
  obtain ⟨ss, k1, k2, k3⟩ := h3.s
  obtain ⟨rs, k4, k5, k6⟩ := h3.r
  have hi : pl O m < m := pl_lt hm
  have HI := hide hi
  obtain ⟨gS, cS, hvS, q1, q2, _, hgS⟩ := k2.head (by omega)
  obtain ⟨gR, cR, hvR, q3, q4, _, hgR⟩ := k5.head (by omega)
  rw [k1] at hvS q1
  rw [k4] at hvR q3
  subst hvS hvR
  have HC : Hid (∀ W, Below w.heap.size w W → W.cell? ⟨gW, 0, none⟩ = some (.slice (some ⟨gS, 0, none⟩) m cS) ∧ W.cell? ⟨gW, 1, none⟩ = some (.slice (some ⟨gR, 0, none⟩) m cR) ∧ W.cell? ⟨gS, pl O m, none⟩ = some (.pointer (some ⟨(P (pl O m)).g, 0, none⟩)) ∧ W.cell? ⟨gR, pl O m, none⟩ = some (.pointer (some ⟨(P (pl O m)).g2, 0, none⟩))) := fun W hW => by
    have e : W.heap[gW]? = _ := (hW.block gW (Array.getElem?_eq_some_iff.1 h1).1).trans h1
    refine ⟨cell_of_row W gW 0 _ _ _ e, by rw [cell_of_row W gW 1 _ _ _ e]; rfl, ?_, ?_⟩
    · rw [(k2.below hW).cellAt (by rw [k1]; exact hi), k3 _ hi]
    · rw [(k5.below hW).cellAt (by rw [k4]; exact hi), k6 _ hi]
  have hb0 := alloc_below w (.cells #[.int .i64 K, .int .i64 O, .int .i64 N] 39)
  have hO := heap_alloc_new w (.cells #[.int .i64 K, .int .i64 O, .int .i64 N] 39)
  have HPL : Hid (∀ W, Calls Tryd.prog 15 #[.int .i64 O, .int .i64 (m : Int)] W fun e w' => e = .returned (.int .i64 ((pl O m : Nat) : Int)) ∧ w' = W) := fun W => place4_calls O m hm (by omega) W
  have hiI : ((pl O m : Nat) : Int) < (m : Int) := by omega
  have hi0 : (0 : Int) ≤ ((pl O m : Nat) : Int) := by omega
  have H := hide h
  have HT := hide hT
  have HTW := hide htw
  clear h1 h2 h3 h4 k1 k2 k3 k4 k5 k6 hi h hT htw
  go_enter Tryd.func11, Tryd.ntmps11
  go_wp2_with fail
  generalize w.alloc (.cells #[.int .i64 K, .int .i64 O, .int .i64 N] 39) = W0 at *
  obtain ⟨c0, c1, c2, c3⟩ := unhide HC W0 hb0
  have d0 : W0.cell? ⟨w.heap.size, 0, none⟩ = some (.int .i64 K) := cell_of_row W0 _ 0 _ _ _ hO
  have d1 : W0.cell? ⟨w.heap.size, 1, none⟩ = some (.int .i64 O) := by rw [cell_of_row W0 _ 1 _ _ _ hO]; rfl
  generalize hgO : w.heap.size = gO at *
  have HGO := hide hgO
  have HO := hide hO
  have HB0 := hide hb0
  clear hb0 hO hgO
  go_quiet ((go_at_call 15; exact Calls.quiet_of_same (unhide HPL _)))
  have hbq : Below gO w (W0.drewN nq) := (HB0.out).trans ((drewn_below W0 nq).mono (by rw [← HGO.out]; exact (show w.heap.size ≤ W0.heap.size by have := (HB0.out).size; omega)))
  obtain ⟨c0', c1', c2', c3'⟩ := unhide HC _ hbq
  have hO' := (((drewn_below W0 nq).block gO (Array.getElem?_eq_some_iff.1 HO.out).1).trans HO.out)
  clear c0 c1 c2 c3 d0 d1
  generalize W0.drewN nq = W at *
  rw [← HGO.out] at hbq
  have d0 : W.cell? ⟨gO, 0, none⟩ = some (.int .i64 K) := cell_of_row W _ 0 _ _ _ hO'
  have d2 : W.cell? ⟨gO, 2, none⟩ = some (.int .i64 N) := by rw [cell_of_row W _ 2 _ _ _ hO']; rfl
  have HOW := hide hO'
  have HB := hide hbq
  have h := (H.out).below hbq
  have hT := (HT.out).below hbq
  have htw := HTW.out
  clear hO' hbq HB0 H HT HO
  generalize pl O m = i at *
  have hi := HI.out
  have h' := hide h.more
  clear h hT htw
  obtain ⟨n1, n2, n3, n4, n5, n6, n7, n8, n9⟩ := HK.out
  go_wp2
  go_ret
  exact ⟨rfl, ⟨P, n, U, X, h'.out, HTW.out⟩, Ch.of_below HB.out⟩
end Go.Proofs.YtifmfnkpogconaaDoor
