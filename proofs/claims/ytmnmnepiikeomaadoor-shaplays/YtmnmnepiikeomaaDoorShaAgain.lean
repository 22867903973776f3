/- ShaAgain's walk. -/
import Derived.Test.YtmnmnepiikeomaaDoorShaSums
import Derived.Test.YtmnmnepiikeomaaDoorShaCuts
namespace Go.Proofs.YtmnmnepiikeomaaDoor
open Go.RowKit

/-- The value is a slice of pairs of ints. -/
structure IsPairs (w : World) (v : Value) (ps : List (Int × Int)) : Prop where
  bd : ∀ p ∈ ps, (-9223372036854775808 ≤ p.1 ∧ p.1 ≤ 9223372036854775807) ∧ (-9223372036854775808 ≤ p.2 ∧ p.2 ≤ 9223372036854775807)
  val : ∃ a cap, v = .slice a ps.length cap ∧ ps.length ≤ cap ∧ cap ≤ 9223372036854775807 ∧
    (0 < ps.length → ∃ b off, a = some ⟨b, off, none⟩ ∧ ∀ j, j < ps.length → w.cell? ⟨b, off + j * 2, none⟩ = some (.int .i64 (ps.getD j (0, 0)).1) ∧ w.cell? ⟨b, off + j * 2 + 1, none⟩ = some (.int .i64 (ps.getD j (0, 0)).2))
theorem isBB_two {w : World} {u v : Value} {xs ys : List Int} (h : IsB w u xs) (h2 : IsB w v ys) : IsBB (w.alloc (.cells #[u, v] 26)) (.slice (some ⟨w.heap.size, 0, none⟩) 2 2) [xs, ys] := by
  refine ⟨some ⟨w.heap.size, 0, none⟩, 2, rfl, Nat.le_refl _, by decide, fun _ => ⟨w.heap.size, 0, rfl, fun j hj => ?_⟩⟩
  have hj2 : j < 2 := by simpa using hj
  rcases (show j = 0 ∨ j = 1 by omega) with rfl | rfl
  · exact ⟨u, (Arr.new w [u, v] 26).cell 0, h.below ((Below.refl _ _).alloc (Nat.le_refl _) _)⟩
  · exact ⟨v, (Arr.new w [u, v] 26).cell 1, h2.below ((Below.refl _ _).alloc (Nat.le_refl _) _)⟩
theorem IsLaid.set {w : World} {B g n c : Nat} {xs : List Int} (h : IsLaid w B g n c xs) {j : Nat} (hj : j < n) {x : Int} (hx : 0 ≤ x ∧ x ≤ 255) : IsLaid (w.setCell ⟨g, j, none⟩ (.int .u8 x)) B g n c (xs.set j x) := by
  have hl := h.len
  refine ⟨fun y hy => ?_, by simp [hl], ?_⟩
  · rcases List.mem_or_eq_of_mem_set hy with hy | rfl
    · exact h.mem y hy
    · exact hx
  · have h1 := (h.own.stored j (.int .u8 x)).1
    rw [← List.map_set, List.set_append_left _ _ (by omega)] at h1
    exact h1
theorem IsLaid.frozen {w : World} {B g n c : Nat} {xs : List Int} (h : IsLaid w B g n c xs) (j : Nat) : w.frozen? ⟨g, j, none⟩ = false := h.own.frozenAt j

theorem Own8.low {w w' : World} {B g : Nat} {v : Value} {xs : List Int} (h : Own8 w B v xs) (hg : w.grownBy w' (some g)) (hgB : g < B) : Own8 w' B v xs := h.kept hg (by
  cases e : v.ownBlock with
  | none => exact Or.inl rfl
  | some k => exact Or.inr (fun e2 => by injection e2 with e2; have := (h.1.lt k e).1; omega))
theorem Own8.ne {w : World} {B g : Nat} {v : Value} {xs : List Int} (h : Own8 w B v xs) (hgB : g < B) : v.ownBlock ≠ some g := fun e => by have := (h.1.lt g e).1; omega
theorem Own8.off {w w0 : World} {B B0 : Nat} {u v : Value} {xs ys : List Int} (h : Own8 w B u xs) (h0 : Own8 w0 B0 v ys) (hB : w0.heap.size ≤ B) : u.ownBlock = none ∨ u.ownBlock ≠ v.ownBlock := by
  cases e : u.ownBlock with
  | none => exact Or.inl rfl
  | some k => exact Or.inr (fun e2 => by have h1 := (h.1.lt k e).1; have h2 := (h0.1.lt k e2.symm).2; omega)
set_option maxRecDepth 100000 in
set_option maxHeartbeats 4000000 in
theorem again_walk {w : World} {vb vt : Value} {xs0 : List Int} {ps : List (Int × Int)} (hb0 : IsB w vb xs0) (hp0 : IsPairs w vt ps) (hT : Tabs w) :
    Calls Tryd.prog 8 #[vb, vt] w fun e w' => e = .returned (.bool true) ∧ Below w.heap.size w w' := by
  obtain ⟨a, n0, cb, rfl⟩ := hb0.shape
  obtain ⟨hpbd, ap, cp, rfl, hpl, hpm, hpc⟩ := hp0
  have HT := hide hT
  have hKl := hT.ltK
  have hSl := hT.ltS
  have hke := keyV_eql
  have hkn := keyV_neq
  have hkg := keyV_guard
  obtain ⟨L, hL⟩ : ∃ L, L = ps.length := ⟨_, rfl⟩
  rw [← hL] at hpl hpc ⊢
  have HPB := hide hpbd
  have HPC := hide hpc
  have HL := hide hL
  have HB0 := hide hb0
  clear hT hpbd hpc hL hb0
  go_enter Tryd.func8, Tryd.ntmps8
  go_wp2_with (first
    | (go_at_call 15; refine (shaNew_calls (unhide HT).s).mono ?_; rintro e w1 ⟨rfl, hH1, hb1⟩; have hT1 := (unhide HT).below hb1)
    | (go_at_call 9; refine (told_calls hT1).mono ?_; rintro e w2 ⟨rfl, hb2⟩; have hH2 := hH1.below hb2; have hB2 := below_then hb1 hb2; have hX2 := (unhide HB0).below hB2)
    | (go_at_call 17; refine (cut_calls hX2 500 (by decide)).mono ?_; rintro e w0 ⟨⟨n, rfl, hn0, hX⟩, hw0⟩; obtain rfl := hw0.symm; have HNN := hide hX.lenEq; have hn5 : n ≤ 500 := (by have h9 := HNN.out; rw [List.length_take] at h9; omega))
    | (go_at_call 18; refine (laid_calls hX (by have h9 := HNN.out; omega)).mono ?_; rintro e w3 ⟨gi, ci, rfl, hI3, hb3⟩; have hH3 := hH2.below hb3; have hB3 := below_then hB2 hb3))
  have hg2 := hH2.lt
  have hg3 := hI3.lt
  generalize xs0.take 500 = xs at *
  clear hX hX2 hH1 hb1 hT1 hb2 HNN hH2 hB2 hb3 hn0
  go_loopw [7, 8] (fun al i wr => ∃ (k : Nat) (ys zs : List Int), k ≤ L + 1 ∧ k ≤ 21 ∧ i = .int .i64 (k : Int) ∧ Hid (zs.length ≤ 500 * k) ∧ IsLaid wr w2.heap.size gi n ci ys ∧ Own8 wr w3.heap.size al zs ∧ IsHash wr w.heap.size zs ∧ w3.heap.size ≤ wr.heap.size ∧ Below w.heap.size w wr) (fun _ i _ => L + 1 - (intOf i).toNat)
  case atStart => exact ⟨0, xs, [], by omega, by omega, rfl, by show _ ≤ _; simp, hI3, Own8.nil _ _, hH3, Nat.le_refl _, hB3⟩
  case round =>
    clear hI3 hH3 hB3
    obtain ⟨k, ys, zs, hk, hk21, rfl, HZ, hI, hal, hH, hz, hx⟩ := hrel
    have hyn := hI.len
    by_cases hlt : k ≤ L ∧ k ≤ 20
    · obtain ⟨hlt1, hlt2⟩ := hlt
      obtain ⟨aa, na, ca, rfl⟩ := hal.shape
      have hna := hal.isB.lenEq
      have hzz : zs.length ≤ 10000 := by have := HZ.out; omega
      have hgi := hI.lt
      have HW : Hid (∀ W, IsHash W w.heap.size zs → IsLaid W w2.heap.size gi n ci ys → Below w.heap.size w W → Calls Tryd.prog 19 #[.pointer (some ⟨w.heap.size, 0, none⟩), .slice (some ⟨gi, 0, none⟩) n ci] W fun e w' => (∃ v, e = .returned v) ∧ IsHash w' w.heap.size (zs ++ ys) ∧ W.grownBy w' (some w.heap.size)) := fun W h1 h2 h3 =>
        write_calls h1 h2.isB (fun _ ad had => by injection had with had; subst had; show gi ≠ _; omega) (by omega) ((unhide HT).k.below h3) (by omega)
      have HYN := hide hyn
      have HNA := hide hna
      clear hyn hna
      go_wp2_with (first
        | (at_builtin; refine wpList_appB rfl (.const (.slice none 0 0)) (.tmp 31) rfl (v := .slice none 0 0) rfl (Own8.nil wr wr.heap.size) rfl hI.isB (by have := HYN.out; simp; omega) (Nat.le_refl _) ?_; intro vw w4 hw4 hg4; rw [List.nil_append] at hw4; have hb4 := (Below.refl wr.heap.size wr).grown hg4 (Nat.le_refl _) (fun k hk => (by simp [Value.ownBlock] at hk)); obtain ⟨aw, nw, cw, rfl⟩ := hw4.shape; have hx4 := below_then hx hb4; have hI4 := hI.below hb4; have hH4 := hH.below hb4; have hal4 := hal.below hb4)
        | (go_at_call 19; refine (unhide HW _ hH4 hI4 hx4).mono ?_; rintro e w5 ⟨⟨v5, rfl⟩, hH5, hg5⟩; have hx5 := hx4.grown hg5 hx4.size (fun k hk => (by injection hk with hk; omega)); have hI5 := hI4.kept hg5 (by intro e9; injection e9 with e9; omega); have hal5 := hal4.low hg5 (by omega); have hw5 := hw4.low hg5 (by omega); have hz5 : w3.heap.size ≤ w5.heap.size := Nat.le_trans hz (Nat.le_trans hb4.size hg5.size))
        | (at_builtin; refine wpList_appB rfl (.tmp 36) (.tmp 37) rfl rfl hal5 rfl hw5.isB (by have := HYN.out; omega) hz5 ?_; intro v6 w6 hal6 hg6; have hx6 := hx5.grown hg6 hx5.size (fun k hk => (by have := (hal5.1.lt k hk).1; omega)); have hI6 := hI5.kept hg6 (Ne.symm (hal5.ne (by omega))); have hH6 := hH5.keptRow hg6 (hal5.ne (by omega)); have hw6 := hw5.kept hg6 (hw5.off hal (Nat.le_refl _)); have hz6 : w3.heap.size ≤ w6.heap.size := Nat.le_trans hz5 hg6.size; obtain ⟨ab, nb, cb2, rfl⟩ := hal6.shape))
      have hT6 := (unhide HT).below hx6
      have hlen : (zs ++ ys).length ≤ 140737488350000 := by rw [List.length_append]; have := HYN.out; omega
      have hlen2 : (ys ++ ys).length ≤ 140737488350000 := by rw [List.length_append]; have := HYN.out; omega
      have hlen1 : ys.length ≤ 140737488350000 := by have := HYN.out; omega
      have HRA : Hid (∀ W, Below w6.heap.size w6 W → Calls Tryd.prog 12 #[.slice ab nb cb2] W fun e w' => e = .returned (keyV (zs ++ ys)) ∧ Below W.heap.size W w') := fun W hW => rsum_calls (hal6.isB.below hW) hlen
      have HRW : Hid (∀ W, Below w6.heap.size w6 W → Calls Tryd.prog 12 #[.slice aw nw cw] W fun e w' => e = .returned (keyV ys) ∧ Below W.heap.size W w') := fun W hW => rsum_calls (hw6.isB.below hW) hlen1
      have HRR : Hid (∀ (W : World) (v : Value), IsB W v (ys ++ ys) → Calls Tryd.prog 12 #[v] W fun e w' => e = .returned (keyV (ys ++ ys)) ∧ Below W.heap.size W w') := fun W v hW => rsum_calls hW hlen2
      have HS1 : Hid (∀ W, Below w6.heap.size w6 W → Calls Tryd.prog 11 #[.slice (some ⟨W.heap.size, 0, none⟩) 1 1] (W.alloc (.cells #[.slice (some ⟨gi, 0, none⟩) n ci] 26)) fun e w' => e = .returned (keyV ys) ∧ Below W.heap.size W w') := fun W hW => by
        have hT2 := (hT6.below hW).below (lit_below W (.cells #[.slice (some ⟨gi, 0, none⟩) n ci] 26))
        refine (sums_calls (isBB_one (hI6.isB.below hW)) (by simpa using hlen1) hT2.k hT2.s).mono ?_
        rintro e w' ⟨rfl, h2⟩
        exact ⟨by simp, below_alloc h2⟩
      have HS2 : Hid (∀ W, Below w6.heap.size w6 W → Calls Tryd.prog 11 #[.slice (some ⟨W.heap.size, 0, none⟩) 2 2] (W.alloc (.cells #[.slice (some ⟨gi, 0, none⟩) n ci, .slice (some ⟨gi, 0, none⟩) n ci] 26)) fun e w' => e = .returned (keyV (ys ++ ys)) ∧ Below W.heap.size W w') := fun W hW => by
        have hT2 := (hT6.below hW).below (lit_below W (.cells #[.slice (some ⟨gi, 0, none⟩) n ci, .slice (some ⟨gi, 0, none⟩) n ci] 26))
        refine (sums_calls (isBB_two (hI6.isB.below hW) (hI6.isB.below hW)) (by simpa using hlen2) hT2.k hT2.s).mono ?_
        rintro e w' ⟨rfl, h2⟩
        exact ⟨by simp, below_alloc h2⟩
      have HIN : Hid (∀ W, Below w6.heap.size w6 W → Calls Tryd.prog 14 #[.slice (some ⟨gi, 0, none⟩) n ci, .slice aw nw cw] W fun e w' => e = .returned (.bool true) ∧ Below W.heap.size W w') := fun W hW => by
        refine (intact_calls (hI6.below hW) (hw6.isB.below hW) (by omega)).mono ?_
        rintro e w' ⟨rfl, hd⟩
        exact ⟨rfl, below_same hd⟩
      clear hg6 hal5 hI5 hH5 hw5 hg5 hI4 hH4 hal4 hw4 hg4 HW hI hal hH hx hx4 hx5
      refine (keys_calls hH6 hT6.k).mono ?_
      rintro e w7 ⟨rfl, hb7⟩
      go_wp2_with fail
      refine (unhide HRA w7 hb7).mono ?_
      rintro e w8 ⟨rfl, hb8⟩
      have hb8' := below_then hb7 hb8
      go_wp2_with fail
      refine (unhide HS1 w8 hb8').mono ?_
      rintro e w9 ⟨rfl, hb9⟩
      have hb9' := below_then hb8' hb9
      go_wp2_with fail
      refine (unhide HRW w9 hb9').mono ?_
      rintro e w10 ⟨rfl, hb10⟩
      have hb10' := below_then hb9' hb10
      go_wp2_with fail
      refine (unhide HS2 w10 hb10').mono ?_
      rintro e w11 ⟨rfl, hb11⟩
      have hb11' := below_then hb10' hb11
      have hw11 := hw6.isB.below hb11'
      go_wp2_with (first
        | (at_builtin; refine wpList_appB rfl (.const (.slice none 0 0)) (.tmp 57) rfl (v := .slice none 0 0) rfl (Own8.nil w11 w11.heap.size) rfl hw11 (by have := HYN.out; simp; omega) (Nat.le_refl _) ?_; intro v12 w12 hO12 hg12; rw [List.nil_append] at hO12; have hb12 := (Below.refl w11.heap.size w11).grown hg12 (Nat.le_refl _) (fun k hk => (by simp [Value.ownBlock] at hk)); have hw12 := hw11.below hb12)
        | (at_builtin; refine wpList_appB rfl (.tmp 58) (.tmp 59) rfl rfl hO12 rfl hw12 (by have := HYN.out; omega) hb12.size ?_; intro v13 w13 hO13 hg13; have hb13 := hb12.grown hg13 hb12.size (fun k hk => (hO12.1.lt k hk).1)))
      refine (unhide HRR w13 _ hO13.isB).mono ?_
      rintro e w14 ⟨rfl, hb14⟩
      have hb14' := below_then hb11' (below_then hb13 hb14)
      go_wp2_with fail
      refine (unhide HIN w14 hb14').mono ?_
      rintro e w15 ⟨rfl, hb15⟩
      have hb15' := below_then hb14' hb15
      go_wp2_with fail
      refine (unhide HS1 w15 hb15').mono ?_
      rintro e w16 ⟨rfl, hb16⟩
      have hb16' := below_then hb15' hb16
      go_wp2_with fail
      refine (unhide HRW w16 hb16').mono ?_
      rintro e w17 ⟨rfl, hb17⟩
      have hb17' := below_then hb16' hb17
      go_upto_region 16 with fail
      have hx17 := below_then hx6 hb17'
      have hI17 := hI6.below hb17'
      have hal17 := hal6.below hb17'
      have hH17 := hH6.below hb17'
      have hz17 := Nat.le_trans hz6 hb17'.size
      have HZ2 : Hid ((zs ++ ys).length ≤ 500 * (k + 1)) := by show _ ≤ _; rw [List.length_append]; have h1 := HZ.out; have h2 := HYN.out; omega
      have hgi17 := hI17.lt
      clear hb17 hb16 hb15 hb14 hb13 hb12 hb11 hb10 hb9 hb8 hb7 hb8' hb9' hb10' hb11' hb14' hb15' hb16' hO13 hO12 hg13 hg12 hw12 hw11 HRA HRW HRR HS1 HS2 HIN hI6 hal6 hH6 hz6 hw6 hT6 hb17' hlen hlen1 hlen2 hkg hkn hke
      by_cases hkL : k < L
      · by_cases hn1 : 0 < n
        · obtain ⟨bp, op, rfl, hpcell⟩ := unhide HPC (by omega)
          obtain ⟨hp1, hp2⟩ := hpcell k hkL
          have hpb := unhide HPB (ps.getD k (0, 0)) (by rw [List.getD_eq_getElem?_getD, List.getElem?_eq_getElem (by rw [← HL.out]; exact hkL)]; exact List.getElem_mem _)
          generalize ps.getD k (0, 0) = pr at *
          obtain ⟨p1, p2⟩ := pr
          obtain ⟨⟨hb1, hb2⟩, hb3, hb4'⟩ := hpb
          have hp1' : w17.cell? ⟨bp, op + k * 2, none⟩ = some (.int .i64 p1) := (hx17.cell (World.block_lt_of_cell? w _ hp1)).trans hp1
          have hp2' : w17.cell? ⟨bp, op + k * 2 + 1, none⟩ = some (.int .i64 p2) := (hx17.cell (World.block_lt_of_cell? w _ hp2)).trans hp2
          have HPCC := hide hpcell
          obtain ⟨j, hjn, hcase⟩ : ∃ j : Nat, j < n ∧ ((p1.tmod (n : Int) = (j : Int)) ∨ (∃ s : Int, s < 0 ∧ p1.tmod (n : Int) = s ∧ s + (n : Int) = (j : Int))) := by
            have h1 := tmod_bd (c := p1) (d := n) hn1
            by_cases h0 : 0 ≤ p1.tmod (n : Int)
            · exact ⟨(p1.tmod (n : Int)).toNat, by omega, Or.inl (by omega)⟩
            · exact ⟨(p1.tmod (n : Int) + (n : Int)).toNat, by omega, Or.inr ⟨p1.tmod (n : Int), by omega, rfl, by omega⟩⟩
          have hcj := hI17.cell j (by omega)
          have hfj := hI17.frozen j
          have HSET : Hid (∀ x : Int, 0 ≤ x → x ≤ 255 → IsLaid (w17.setCell ⟨gi, j, none⟩ (.int .u8 x)) w2.heap.size gi n ci (ys.set j x) ∧ Own8 (w17.setCell ⟨gi, j, none⟩ (.int .u8 x)) w3.heap.size (.slice ab nb cb2) (zs ++ ys) ∧ IsHash (w17.setCell ⟨gi, j, none⟩ (.int .u8 x)) w.heap.size (zs ++ ys) ∧ w3.heap.size ≤ (w17.setCell ⟨gi, j, none⟩ (.int .u8 x)).heap.size ∧ Below w.heap.size w (w17.setCell ⟨gi, j, none⟩ (.int .u8 x))) := fun x h0 h1 =>
            ⟨hI17.set hjn ⟨h0, h1⟩, hal17.low (grown_set w17 gi j _) (by omega), hH17.keptRow (grown_set w17 gi j _) (by intro e9; injection e9 with e9; omega), Nat.le_trans hz17 (grown_set w17 gi j _).size, hx17.setCell (p := ⟨gi, j, none⟩) (by show _ ≤ gi; omega) _⟩
          generalize (.int .u8 ((ys ++ marks).getD j 0) : Value) = old at *
          have hjI : (j : Int) < (n : Int) := by omega
          have hj0 : (0 : Int) ≤ (j : Int) := by omega
          have hkI : (k : Int) < (L : Int) := by omega
          have hk0 : (0 : Int) ≤ (k : Int) := by omega
          have hnI : (0 : Int) < (n : Int) := by omega
          clear hp1 hp2 hpcell hI17 hal17 hH17 hz17
          rcases hcase with hr | ⟨s, hs0, hr, hsj⟩
          · go_wp2
            obtain ⟨q1, q2, q3, q4, q5⟩ := unhide HSET (p2 % 256) (by omega) (by omega)
            exact ⟨⟨k + 1, _, zs ++ ys, by omega, by omega, by go_num, HZ2, q1, q2, q3, q4, q5⟩, by simp [intOf]; omega⟩
          · go_wp2
            obtain ⟨q1, q2, q3, q4, q5⟩ := unhide HSET (p2 % 256) (by omega) (by omega)
            exact ⟨⟨k + 1, _, zs ++ ys, by omega, by omega, by go_num, HZ2, q1, q2, q3, q4, q5⟩, by simp [intOf]; omega⟩
        · have hnI : ¬ (0 : Int) < (n : Int) := by omega
          have hkI : (k : Int) < (L : Int) := by omega
          go_wp2
          exact ⟨⟨k + 1, ys, zs ++ ys, by omega, by omega, by go_num, HZ2, hI17, hal17, hH17, hz17, hx17⟩, by simp [intOf]; omega⟩
      · have hkI : ¬ (k : Int) < (L : Int) := by omega
        go_wp2
        exact ⟨⟨k + 1, ys, zs ++ ys, by omega, by omega, by go_num, HZ2, hI17, hal17, hH17, hz17, hx17⟩, by simp [intOf]; omega⟩
    · have hkk : ¬ ((k : Int) ≤ (L : Int) ∧ (k : Int) ≤ 20) := by omega
      have hT6 := (unhide HT).below hx
      have hzz : zs.length ≤ 10500 := by have := HZ.out; omega
      have HK1 := hide (keys_calls hH hT6.k)
      have hal' := hal.isB
      obtain ⟨aa, na, ca, rfl⟩ := hal.shape
      have hna := hal'.lenEq
      have HLN : Hid (∀ W, Below wr.heap.size wr W → Calls Tryd.prog 20 #[.pointer (some ⟨w.heap.size, 0, none⟩)] W fun e w' => e = .returned (.int .i64 (na : Int)) ∧ w' = W) := fun W hW => by
        rw [hna]
        exact len_calls (hH.below hW)
      have HRS : Hid (∀ W, Below wr.heap.size wr W → Calls Tryd.prog 12 #[.slice aa na ca] W fun e w' => e = .returned (keyV zs) ∧ Below W.heap.size W w') := fun W hW => rsum_calls (hal'.below hW) (by omega)
      clear hH hna hal hal' hI hyn hT6
      by_cases hk1 : (k : Int) ≤ (L : Int)
      · have hk2 : ¬ (k : Int) ≤ 20 := by omega
        go_wp2_with fail
        refine (unhide HK1).mono ?_
        rintro e w7 ⟨rfl, hb7⟩
        go_wp2_with fail
        refine (unhide HRS w7 hb7).mono ?_
        rintro e w8 ⟨rfl, hb8⟩
        go_wp2_with fail
        refine (unhide HLN w8 (below_then hb7 hb8)).mono ?_
        rintro e w9 ⟨rfl, hw9⟩
        obtain rfl := hw9.symm
        go_wp2
        go_ret
        exact ⟨rfl, below_then hx (below_then hb7 hb8)⟩
      · go_wp2_with fail
        refine (unhide HK1).mono ?_
        rintro e w7 ⟨rfl, hb7⟩
        go_wp2_with fail
        refine (unhide HRS w7 hb7).mono ?_
        rintro e w8 ⟨rfl, hb8⟩
        go_wp2_with fail
        refine (unhide HLN w8 (below_then hb7 hb8)).mono ?_
        rintro e w9 ⟨rfl, hw9⟩
        obtain rfl := hw9.symm
        go_wp2
        go_ret
        exact ⟨rfl, below_then hx (below_then hb7 hb8)⟩
end Go.Proofs.YtmnmnepiikeomaaDoor
