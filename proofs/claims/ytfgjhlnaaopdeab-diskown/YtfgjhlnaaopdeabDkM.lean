/- A disk and the document's begin, and tell of themselves. -/
import Derived.Test.YtfgjhlnaaopdeabDkK
namespace Go.Proofs.Ytfgjhlnaaopdeab
open Go.RowKit Go.Maps

theorem rel_zero (n : Nat) : Rel (zeroD n) ⟨n, [], [], 0, 0, 0⟩ := by
  refine ⟨by simp [zeroD], fun i hi => ?_, fun i _ => rfl, fun a ha => by simp at ha, fun a ha => by simp at ha, rfl, rfl, rfl⟩
  simp only [zeroD, List.length_replicate] at hi
  simp only [zeroD]
  rw [List.getD_eq_getElem?_getD, List.getElem?_replicate, if_pos hi]
  rfl
theorem rel_load {xss : List (List Int)} (h : ∀ s ∈ xss, IsSec s) : Rel ⟨xss, fun _ => [], 0, 0, 0⟩ ⟨xss.length, atsOf xss, [], 0, 0, 0⟩ :=
  ⟨rfl, fun i hi => (lastOf_atsOf xss i hi).symm, fun _ _ => rfl, atsOf_ok xss h, fun a ha => by simp at ha, rfl, rfl, rfl⟩
theorem rel_image {D : AD} {R : RD} (h : Rel D R) : (List.range R.n).map (fun i : Nat => lastOf R.la (i : Int)) = D.la := by
  apply List.ext_getElem
  · simp [h.n]
  · intro i h1 h2
    have := h.la i h2
    rw [getD_eq h2] at this
    simp [this]
/-- A pair in memory of its own. -/
structure Born (w w' : World) (g p gl gm : Nat) (V : Nat → Value) : Prop where
  g : w.heap.size ≤ g
  p : w.heap.size ≤ p
  gl : w.heap.size ≤ gl
  gm : w.heap.size ≤ gm
  v : ∀ i, V i = .slice none 0 0
  b : Below w.heap.size w w'
theorem Born.fp {w w' : World} {g p gl gm : Nat} {V : Nat → Value} (h : Born w w' g p gl gm V) : ∀ b, Fp g p gl gm V b → w.heap.size ≤ b := by
  rintro b (rfl | rfl | rfl | rfl | ⟨i, hi⟩)
  · exact h.g
  · exact h.p
  · exact h.gl
  · exact h.gm
  · rw [h.v i] at hi; cases hi
set_option maxRecDepth 100000 in
set_option maxHeartbeats 2000000 in
theorem started_bad {w : World} {n : Int} (h : n < 2 ∨ 65536 < n) : Calls Try.prog 28 #[.int .i64 n] w fun e w' => e = .returned (.tuple #[.pointer none, .bool true]) ∧ Below w.heap.size w w' := by
  have HN := hide (new_bad (w := w) h)
  have HR : Hid (∀ W : World, Calls Try.prog 39 #[.int .i64 n] W fun e w' => Below W.heap.size W w' ∧ e = .returned (.tuple #[.agg #[.int .i64 0, .slice none 0 0, .slice none 0 0, .int .i64 0, .int .i64 0, .int .i64 0], .int .i64 30])) := fun W => by
    have := rnew_calls (w := W) (n := n)
    rw [if_pos h, if_pos h] at this
    exact this
  clear h
  go_enter Try.func28, Try.ntmps28
  go_wp2_with (first
    | (go_at_call 24; refine (unhide HN).mono ?_; rintro e w1 ⟨rfl, hw1⟩; obtain rfl := hw1.symm)
    | (go_at_call 39; refine (unhide HR _).mono ?_; rintro e w2 ⟨hb2, rfl⟩))
  go_ret2
  exact ⟨rfl, hb2.alloc hb2.size _⟩
set_option maxRecDepth 100000 in
set_option maxHeartbeats 2000000 in
theorem started_good {w : World} {n : Nat} (h2 : 2 ≤ n) (h6 : n ≤ 65536) : Calls Try.prog 28 #[.int .i64 (n : Int)] w fun e w' => ∃ g p gl gm V, e = .returned (.tuple #[.pointer (some ⟨g, 0, none⟩), .bool true]) ∧ Pr w' g p gl gm V (zeroD n) ⟨n, [], [], 0, 0, 0⟩ ∧ Born w w' g p gl gm V := by
  have HN := hide (new_calls (w := w) h2 h6)
  have HR : Hid (∀ W : World, Calls Try.prog 39 #[.int .i64 (n : Int)] W fun e w' => Below W.heap.size W w' ∧ e = .returned (.tuple #[.agg #[.int .i64 (n : Int), .slice none 0 0, .slice none 0 0, .int .i64 0, .int .i64 0, .int .i64 0], .int .i64 0])) := fun W => by
    have := rnew_calls (w := W) (n := (n : Int))
    rw [if_neg (by omega), if_neg (by omega)] at this
    exact this
  go_enter Try.func28, Try.ntmps28
  go_wp2_with (first
    | (go_at_call 24; refine (unhide HN).mono ?_; rintro e w1 ⟨p, gl, gm, V, rfl, hD, hp, hgl, hgm, hV, hb1⟩)
    | (go_at_call 39; refine (unhide HR _).mono ?_; rintro e w2 ⟨hb2, rfl⟩))
  have hbA : Below w2.heap.size w2 ((w2.alloc (.cells #[.int .i64 (n : Int), .slice none 0 0, .slice none 0 0, .int .i64 0, .int .i64 0, .int .i64 0] 85)).alloc (.cells #[.pointer (some ⟨p, 0, none⟩), .int .i64 (n : Int), .slice none 0 0, .slice none 0 0, .int .i64 0, .int .i64 0, .int .i64 0] 89)) := ((Below.refl _ _).alloc (Nat.le_refl _) _).alloc (by simp) _
  have hG := Arr.new (w2.alloc (.cells #[.int .i64 (n : Int), .slice none 0 0, .slice none 0 0, .int .i64 0, .int .i64 0, .int .i64 0] 85)) [.pointer (some ⟨p, 0, none⟩), .int .i64 (n : Int), .slice none 0 0, .slice none 0 0, .int .i64 0, .int .i64 0, .int .i64 0] 89
  rw [size_alloc] at hG
  have hbT := below_then hb2 hbA
  have hs1 := hb1.size
  have hs2 := hb2.size
  go_ret2
  exact ⟨w2.heap.size + 1, p, gl, gm, V, rfl, ⟨⟨none, 0, 0, none, 0, 0, hG, IsAts.nil _, IsAts.nil _⟩, hD.below hbT, rel_zero n⟩, ⟨by omega, hp, hgl, hgm, hV, hb1.trans (hbT.mono hs1)⟩⟩
set_option maxRecDepth 100000 in
set_option maxHeartbeats 1000000 in
theorem rload_few {w : World} {a : Option Addr} {n cap : Nat} (h : n < 2 ∨ 65536 < n) (hn : n ≤ 9223372036854775807) :
    Calls Try.prog 47 #[.slice a n cap] w fun e w' => e = .returned (.tuple #[.agg #[.int .i64 0, .slice none 0 0, .slice none 0 0, .int .i64 0, .int .i64 0, .int .i64 0], .int .i64 30]) ∧ Below w.heap.size w w' := by
  by_cases h1 : n < 2
  · have hd1 : decide ((n : Int) < 2) = true := by simp; omega
    clear h
    go_enter Try.func47, Try.ntmps47
    go_wp2
    refine bodyPost_ret (v := .tuple #[.agg #[.int .i64 0, .slice none 0 0, .slice none 0 0, .int .i64 0, .int .i64 0, .int .i64 0], .int .i64 30]) ?_ rfl ?_
    · simp [results, Try.results47, go_sem]
    · exact ⟨rfl, (Below.refl _ _).alloc (Nat.le_refl _) _⟩
  · have hd1 : decide ((n : Int) < 2) = false := by simp; omega
    have hd2 : decide (65536 < (n : Int)) = true := by simp; omega
    clear h
    go_enter Try.func47, Try.ntmps47
    go_wp2
    refine bodyPost_ret (v := .tuple #[.agg #[.int .i64 0, .slice none 0 0, .slice none 0 0, .int .i64 0, .int .i64 0, .int .i64 0], .int .i64 30]) ?_ rfl ?_
    · simp [results, Try.results47, go_sem]
    · exact ⟨rfl, (Below.refl _ _).alloc (Nat.le_refl _) _⟩
def AD.plus (D : AD) (k : Nat) : AD := { D with rd := D.rd + k }
def RD.plus (R : RD) (k : Nat) : RD := { R with rd := R.rd + k }
theorem plus_step (D : AD) (k : Nat) (hk : k < D.la.length) : (D.plus k).readAt (k : Int) = D.plus (k + 1) := by
  have : rdOf (D.plus k) (k : Int) = true := by unfold rdOf AD.plus; exact decide_eq_true ⟨by omega, by show (k : Int) < D.la.length; omega⟩
  unfold AD.readAt
  rw [if_pos this]
  unfold AD.plus AD.read
  congr 1
  show D.rd + k + 1 = D.rd + ((k + 1 : Nat) : Int)
  omega
theorem rplus_step (D : AD) (R : RD) (k : Nat) (hk : k < D.la.length) : (R.plus k).readAt (rdOf (D.plus k) (k : Int)) = R.plus (k + 1) := by
  have : rdOf (D.plus k) (k : Int) = true := by unfold rdOf AD.plus; exact decide_eq_true ⟨by omega, by show (k : Int) < D.la.length; omega⟩
  unfold RD.readAt
  rw [if_pos this]
  unfold RD.plus
  congr 1
  show R.rd + k + 1 = R.rd + ((k + 1 : Nat) : Int)
  omega
set_option maxRecDepth 100000 in
set_option maxHeartbeats 4000000 in
theorem told_calls {w : World} {g p gl gm : Nat} {V : Nat → Value} {D : AD} {R : RD} (h : Pr w g p gl gm V D R) (hr0 : 0 ≤ D.rd) (hr1 : D.rd ≤ 576460752303423488) :
    Calls Try.prog 30 #[.pointer (some ⟨g, 0, none⟩)] w fun e w' => e = .returned (.bool true) ∧ Up (Fp g p gl gm V) w w' := by
  obtain ⟨a1, n1, c1, a2, n2, c2, hG, hL, hW⟩ := h.blk
  have hDk := h.dk
  have hRel := h.rel
  have hlen := hDk.ok.hi
  have hlo := hDk.ok.lo
  have e1 := hRel.n
  have e2 := hRel.rd
  have e3 := hRel.wt
  have e4 := hRel.fl
  rw [e1, e2, e3, e4] at hG
  have HAc : Hid (∀ W, Below w.heap.size w W → Calls Try.prog 22 #[.pointer (some ⟨p, 0, none⟩)] W fun e w' => e = .returned (.agg #[.int .i64 D.rd, .int .i64 D.wt, .int .i64 D.fl]) ∧ Below W.heap.size W w') := fun W hb => by
    obtain ⟨_, _, k2, k3, k4⟩ := (hDk.below hb).cells
    exact acts_calls k2 k3 k4
  have HSc : Hid (∀ W, Below w.heap.size w W → Calls Try.prog 14 #[.pointer (some ⟨p, 0, none⟩)] W fun e w' => e = .returned (.int .i64 (D.la.length : Int)) ∧ w' = W) := fun W hb => sectors_calls (hDk.below hb).cells.1
  have HIm : Hid (∀ W, Below w.heap.size w W → Calls Try.prog 13 #[.pointer (some ⟨p, 0, none⟩)] W fun e w' => ∃ v, e = .returned v ∧ IsBB w' v D.la ∧ Below W.heap.size W w') := fun W hb => (image_calls (hDk.below hb)).mono (by rintro e w' ⟨v, rfl, h1, h2⟩; exact ⟨v, rfl, h1.isBB hlen, h2⟩)
  have HRi : Hid (∀ W, Below w.heap.size w W → Calls Try.prog 46 #[.agg #[.int .i64 (D.la.length : Int), .slice a1 n1 c1, .slice a2 n2 c2, .int .i64 D.rd, .int .i64 D.wt, .int .i64 D.fl]] W fun e w' => ∃ v, e = .returned v ∧ IsBB w' v D.la ∧ Below W.heap.size W w') := fun W hb => by
    have := rimage_calls (w := W) (vb := .slice a2 n2 c2) (rd := D.rd) (wt := D.wt) (fl := D.fl) (n := D.la.length) (hL.below hb) (by rw [← e1]; exact hRel.lok) hlen
    rw [← e1, rel_image hRel, e1] at this
    exact this
  have HSm : Hid (∀ W va vb, IsBB W va D.la → IsBB W vb D.la → Calls Try.prog 23 #[va, vb] W fun e w' => e = .returned (.bool true) ∧ Below W.heap.size W w') := fun W va vb h1 h2 => sameImg_calls h1 h2 (by omega)
  have hglt := hG.lt
  have HSS : Hid (∀ W : World, Below w.heap.size w W → W.cell? ⟨g, 0, none⟩ = some (.pointer (some ⟨p, 0, none⟩)) ∧ W.cell? ⟨g, 1, none⟩ = some (.int .i64 (D.la.length : Int)) ∧ W.cell? ⟨g, 2, none⟩ = some (.slice a1 n1 c1) ∧ W.cell? ⟨g, 3, none⟩ = some (.slice a2 n2 c2) ∧ W.cell? ⟨g, 4, none⟩ = some (.int .i64 D.rd) ∧ W.cell? ⟨g, 5, none⟩ = some (.int .i64 D.wt) ∧ W.cell? ⟨g, 6, none⟩ = some (.int .i64 D.fl)) := fun W hb =>
    have hA := hG.below hb
    ⟨hA.cell_of rfl, hA.cell_of rfl, hA.cell_of rfl, hA.cell_of rfl, hA.cell_of rfl, hA.cell_of rfl, hA.cell_of rfl⟩
  have HP := hide h
  clear h hDk hRel hG hL hW e1 e2 e3 e4
  generalize hq0 : D.rd = rd at *
  generalize hq1 : D.wt = wt at *
  generalize hq2 : D.fl = fl at *
  generalize hnn : D.la.length = n at *
  have HQ := hide hnn
  have HQ0 := hide hq0
  clear hq0 hq1 hq2 hnn
  go_enter Try.func30, Try.ntmps30
  go_wp2_with fail
  go_cut [41] (fun v wc => v = .bool false ∧ Hid (Below w.heap.size w wc))
  case first =>
    go_region_held3 (fun W => W.cell? ⟨g, 0, none⟩ = some (.pointer (some ⟨p, 0, none⟩)) ∧ W.cell? ⟨g, 1, none⟩ = some (.int .i64 (n : Int)) ∧ W.cell? ⟨g, 2, none⟩ = some (.slice a1 n1 c1) ∧ W.cell? ⟨g, 3, none⟩ = some (.slice a2 n2 c2) ∧ W.cell? ⟨g, 4, none⟩ = some (.int .i64 rd) ∧ W.cell? ⟨g, 5, none⟩ = some (.int .i64 wt) ∧ W.cell? ⟨g, 6, none⟩ = some (.int .i64 fl))
      ((refine unhide HSS _ ?_; first | exact hb6 | exact hb7 | exact hb4 | exact hb5 | exact hb3 | exact hb2 | exact (Below.refl _ _).drew))
      (first
        | (go_at_call 22; refine (unhide HAc _ (Below.refl _ _).drew).mono ?_; rintro e w2 ⟨rfl, hb2'⟩; have hb2 := below_drew hb2')
        | (go_at_call 14; refine (unhide HSc _ hb2).mono ?_; rintro e w9 ⟨rfl, hw9⟩; obtain rfl := hw9.symm)
        | (go_at_call 13; refine (unhide HIm _ hb5).mono ?_; rintro e w6 ⟨vI, rfl, hI6, hb6'⟩; have hR6 := hR5.below hb6'; have hb6 := below_then hb5 hb6'; obtain ⟨ia, ik, rfl, _⟩ := hI6.val)
        | (go_at_call 13; refine (unhide HIm _ hb2).mono ?_; rintro e w3 ⟨vI, rfl, hI3, hb3'⟩; have hb3 := below_then hb2 hb3'; obtain ⟨ia, ik, rfl, _⟩ := hI3.val)
        | (go_at_call 46; refine (unhide HRi _ hb3).mono ?_; rintro e w4 ⟨vR, rfl, hR4, hb4'⟩; have hI4 := hI3.below hb4'; have hb4 := below_then hb3 hb4'; obtain ⟨ra, rk, rfl, _⟩ := hR4.val)
        | (go_at_call 46; refine (unhide HRi _ hb2).mono ?_; rintro e w5 ⟨vR, rfl, hR5, hb5'⟩; have hb5 := below_then hb2 hb5'; obtain ⟨ra, rk, rfl, _⟩ := hR5.val)
        | (go_at_call 23; refine (unhide HSm _ _ _ hI4 hR4).mono ?_; rintro e w7 ⟨rfl, hb7'⟩; have hb7 := below_then hb4 hb7')
        | (go_at_call 23; refine (unhide HSm _ _ _ hI6 hR6).mono ?_; rintro e w7 ⟨rfl, hb7'⟩; have hb7 := below_then hb6 hb7'))
    all_goals (
      go_wp2
      go_meet
      exact ⟨rfl, hide hb7⟩)
  case rest =>
    obtain ⟨rfl, HB⟩ := hcut
    have HP1 : Hid (Pr wc g p gl gm V (D.plus 0) (R.plus 0)) := by
      have e1 : D.plus 0 = D := by unfold AD.plus; simp
      have e2 : R.plus 0 = R := by unfold RD.plus; simp
      rw [e1, e2]
      obtain ⟨x1, x2, x3, x4, x5, x6, y1, y2, y3⟩ := HP.out.blk
      exact ⟨⟨x1, x2, x3, x4, x5, x6, y1.below HB.out, y2.below HB.out, y3.below HB.out⟩, HP.out.dk.below HB.out, HP.out.rel⟩
    have hUp : Up (Fp g p gl gm V) w wc := Up.of_below HB.out
    have HU := hide hUp
    clear hUp HAc HSc HIm HRi HSm HSS HP HB
    go_wp2
    go_loopw [3] (fun iv wr => ∃ k : Nat, k ≤ n ∧ iv = .int .i64 (k : Int) ∧ Hid (Pr wr g p gl gm V (D.plus k) (R.plus k)) ∧ Hid (Up (Fp g p gl gm V) w wr)) (fun iv _ => n - (intOf iv).toNat)
    case atStart => exact ⟨0, by omega, rfl, HP1, HU⟩
    case round =>
      clear HP1 HU
      obtain ⟨k, hk, rfl, HP, HU⟩ := hrel
      obtain ⟨b1, m1, d1, b2, m2, d2, hG, hL, hW⟩ := HP.out.blk
      have hRn : (R.plus k).n = n := HP.out.rel.n.trans HQ.out
      have hRr : (R.plus k).rd = (D.plus k).rd := HP.out.rel.rd
      have hRw : (R.plus k).wt = (D.plus k).wt := HP.out.rel.wt
      have hRf : (R.plus k).fl = (D.plus k).fl := HP.out.rel.fl
      rw [hRn, hRr, hRw, hRf] at hG
      have c0 := hG.cell_of (j := 0) rfl
      have c1' := hG.cell_of (j := 1) rfl
      by_cases hlt : k < n
      · have hkl : k < D.la.length := by rw [HQ.out]; exact hlt
        have HDo := hide (does_read HP.out (k : Int) 0 0 (.slice none 0 0) (.slice none 0 0) ⟨_, _, _, rfl⟩ ⟨_, _, _, rfl⟩ (by show 0 ≤ D.rd + (k : Int); rw [HQ0.out]; omega) (by show D.rd + (k : Int) ≤ 1152921504606846976; rw [HQ0.out]; omega))
        rw [plus_step D k hkl, rplus_step D R k hkl] at HDo
        clear hG hL hW hRn hRr hRw hRf HP hkl
        go_wp2_with (go_at_call 29; refine (unhide HDo).mono ?_; rintro e w2 ⟨rfl, hP2, hU2⟩; have HP2 := hide hP2; have HU2 := hide (HU.out.trans (F' := Fp g p gl gm V) hU2 (fun _ h => Or.inl h)); clear hP2 hU2)
        go_roundw
        case rel => exact ⟨k + 1, by omega, by go_num, HP2, HU2⟩
        case measure => simp [intOf]; omega
      · have c4 := hG.cell_of (j := 4) rfl
        have c5 := hG.cell_of (j := 5) rfl
        have c6 := hG.cell_of (j := 6) rfl
        obtain ⟨_, _, k2, k3, k4⟩ := HP.out.dk.cells
        have HAc : Hid (∀ W, Below wr.heap.size wr W → Calls Try.prog 22 #[.pointer (some ⟨p, 0, none⟩)] W fun e w' => e = .returned (.agg #[.int .i64 (D.plus k).rd, .int .i64 (D.plus k).wt, .int .i64 (D.plus k).fl]) ∧ Below W.heap.size W w') := fun W hb => by
          obtain ⟨_, _, k2, k3, k4⟩ := (HP.out.dk.below hb).cells
          exact acts_calls k2 k3 k4
        have HSS : Hid (∀ W : World, Below wr.heap.size wr W → W.cell? ⟨g, 0, none⟩ = some (.pointer (some ⟨p, 0, none⟩)) ∧ W.cell? ⟨g, 4, none⟩ = some (.int .i64 (D.plus k).rd) ∧ W.cell? ⟨g, 5, none⟩ = some (.int .i64 (D.plus k).wt) ∧ W.cell? ⟨g, 6, none⟩ = some (.int .i64 (D.plus k).fl)) := fun W hb =>
          have hA := hG.below hb
          ⟨hA.cell_of rfl, hA.cell_of rfl, hA.cell_of rfl, hA.cell_of rfl⟩
        clear hG hL hW hRn hRr hRw hRf HP k2 k3 k4 c4 c5 c6
        generalize (D.plus k).rd = rd2 at *
        generalize (D.plus k).wt = wt2 at *
        generalize (D.plus k).fl = fl2 at *
        go_wp2_with fail
        focus (go_region_held3 (fun W => W.cell? ⟨g, 0, none⟩ = some (.pointer (some ⟨p, 0, none⟩)) ∧ W.cell? ⟨g, 4, none⟩ = some (.int .i64 rd2) ∧ W.cell? ⟨g, 5, none⟩ = some (.int .i64 wt2) ∧ W.cell? ⟨g, 6, none⟩ = some (.int .i64 fl2))
          ((refine unhide HSS _ ?_; first | exact hb2 | exact (Below.refl _ _).drew))
          (first
            | (go_at_call 22; refine (unhide HAc _ (Below.refl _ _).drew).mono ?_; rintro e w2 ⟨rfl, hb2'⟩; have hb2 := below_drew hb2')))
        go_wp2
        go_ret
        exact ⟨rfl, HU.out.then_below hb2⟩
end Go.Proofs.Ytfgjhlnaaopdeab
