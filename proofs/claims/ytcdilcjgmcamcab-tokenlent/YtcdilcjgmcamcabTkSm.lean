/- The document's Same. -/
import Derived.Test.YtcdilcjgmcamcabTkD
import Derived.Laws.StructEq
namespace Go.Proofs.Ytcdilcjgmcamcab
open Go.RowKit Go.Maps Classical

theorem tok_equal (x y : Tok) (W : World) : (Op.equalIn 10000 26 (.agg (tkC x).toArray) (.agg (tkC y).toArray)).run Try.prog W = .ok (decide (x = y)) W := by
  obtain ⟨xk, xt, xl, xp⟩ := x
  obtain ⟨yk, yt, yl, yp⟩ := y
  have ui := Try.underlying3
  have us := Try.underlying9
  have e1 : ∀ xt yt : ByteArray, (xt.toList == yt.toList) = decide (xt = yt) := fun xt yt => by
    rw [ByteArray.toList_eq, ByteArray.toList_eq]
    by_cases h : xt = yt
    · subst h; simp
    · rw [decide_eq_false h]
      simp only [beq_eq_false_iff_ne, ne_eq]
      exact fun e => h (Go.WideShapes.bytes_inj e)
  rw [run_equalIn_struct W 9999 26 _ _ (by kernel_rfl) (by kernel_rfl)]
  have q1 : ∀ (a b : Int) (W : World), (Op.equalIn 9999 3 (.int .i64 a) (.int .i64 b)).run Try.prog W = .ok (a == b) W := fun a b W => run_equalIn_int W 9998 3 .i64 .i64 a b ui
  have q2 : ∀ (xt yt : ByteArray) (W : World), (Op.equalIn 9999 9 (.string xt) (.string yt)).run Try.prog W = .ok (decide (xt = yt)) W := fun xt yt W => (run_equalIn_string W 9998 9 xt yt us).trans (by rw [e1])
  have hd : decide (Tok.mk xk xt xl xp = Tok.mk yk yt yl yp) = (decide (xk = yk) && decide (xt = yt) && decide (xl = yl) && decide (xp = yp)) := by
    rw [Bool.eq_iff_iff]; simp [and_assoc]
  rw [hd]
  simp only [Program.fieldsOf, Try.underlying26]
  by_cases h1 : xk = yk <;> by_cases h2 : xt = yt <;> by_cases h3 : xl = yl <;> by_cases h4 : xp = yp <;> simp [Op.eqFields, part, isAgg, run_underlying ui, run_underlying us, q1, q2, tkC, h1, h2, h3, h4]
theorem tok_neq (x y : Tok) (W : World) : (binOp .neq 26 (.agg (tkC x).toArray) (.agg (tkC y).toArray)).run Try.prog W = .ok (.bool (!decide (x = y))) W := by
  rw [run_neq_struct, tok_equal]; rfl
theorem tok_eql (x y : Tok) (W : World) : (binOp .eql 26 (.agg (tkC x).toArray) (.agg (tkC y).toArray)).run Try.prog W = .ok (.bool (decide (x = y))) W := by
  rw [run_eql_struct, tok_equal]; rfl
theorem tok_guard (op : BinOp) (x y : Operand) (xs ys : Array Value) (w : World) : (eqGuard op 26 x y (.agg xs) (.agg ys)).run Try.prog w = .ok () w := run_eqGuard_agg w op 26 x y xs ys (by kernel_rfl)
theorem tk_lt {w : World} {b o : Nat} {l : List Tok} (hc : ∀ j k, j < l.length → k < 4 → w.cell? ⟨b, o + (4 * j + k), none⟩ = (tkC (l.getD j .nul))[k]?) (h : 0 < l.length) : b < w.heap.size :=
  World.block_lt_of_cell? w ⟨b, o + (4 * 0 + 0), none⟩ (u := .int .i64 (l.getD 0 .nul).kind) (by rw [hc 0 0 h (by omega)]; rfl)
theorem tk_all {a b : List Tok} (hl : a.length = b.length) (h : ∀ j, j < a.length → a.getD j .nul = b.getD j .nul) : a = b := by
  refine List.ext_getElem hl fun j h1 h2 => ?_
  have := h j h1
  rw [List.getD_eq_getElem?_getD, List.getD_eq_getElem?_getD, List.getElem?_eq_getElem h1, List.getElem?_eq_getElem h2] at this
  exact this
theorem tk_cells {W : World} {b o j : Nat} {x : Tok} (h : ∀ k, k < 4 → W.cell? ⟨b, o + (4 * j + k), none⟩ = (tkC x)[k]?) :
    W.cell? ⟨b, o + j * 4, none⟩ = some (.int .i64 x.kind) ∧ W.cell? ⟨b, o + j * 4 + 1, none⟩ = some (.string x.text) ∧ W.cell? ⟨b, o + j * 4 + 2, none⟩ = some (.int .i64 x.line) ∧ W.cell? ⟨b, o + j * 4 + 3, none⟩ = some (.int .i64 x.place) := by
  have h0 := h 0 (by omega)
  have h1 := h 1 (by omega)
  have h2 := h 2 (by omega)
  have h3 := h 3 (by omega)
  rw [show o + (4 * j + 0) = o + j * 4 by omega] at h0
  rw [show o + (4 * j + 1) = o + j * 4 + 1 by omega] at h1
  rw [show o + (4 * j + 2) = o + j * 4 + 2 by omega] at h2
  rw [show o + (4 * j + 3) = o + j * 4 + 3 by omega] at h3
  exact ⟨h0, h1, h2, h3⟩
set_option maxRecDepth 100000 in
set_option maxHeartbeats 4000000 in
theorem same_calls {va vb : Value} {la lb : List Tok} {w : World} (ha : IsTk w va la) (hb : IsTk w vb lb) : Calls Try.prog 11 #[va, vb] w fun e w' => e = .returned (.bool (decide (la = lb))) ∧ Below w.heap.size w w' := by
  obtain ⟨aa, ca, rfl, hla, hma, _, hca⟩ := ha
  obtain ⟨ab, cb, rfl, hlb, hmb, _, hcb⟩ := hb
  obtain ⟨q, hq⟩ : ∃ q, q = decide (la = lb) := ⟨_, rfl⟩
  have HQ := hide hq
  rw [← hq]
  clear hq
  have HCA := hide hca
  have HCB := hide hcb
  clear hca hcb
  obtain ⟨n, hn⟩ : ∃ n, n = la.length := ⟨_, rfl⟩
  obtain ⟨m, hm⟩ : ∃ m, m = lb.length := ⟨_, rfl⟩
  rw [← hn] at hla
  rw [← hm] at hlb
  have HN := hide hn
  have HM := hide hm
  rw [← hn, ← hm]
  clear hn hm
  by_cases hnm : n = m
  · subst hnm
    go_enter Try.func11, Try.ntmps11
    go_wp2_with fail
    go_loopw [5] (fun iv W => ∃ (j : Nat), j ≤ n ∧ iv = .int .i64 (j : Int) ∧ Below w.heap.size w W ∧ Hid (∀ k, k < j → la.getD k .nul = lb.getD k .nul)) (fun i _ => n - (intOf i).toNat)
    case atStart => exact ⟨0, by omega, rfl, Below.refl _ _, fun k hk => absurd hk (by omega)⟩
    case round =>
      obtain ⟨j, hjn, rfl, hbw, HJ⟩ := hrel
      by_cases hlt : j < n
      · obtain ⟨b1, o1, rfl, hc1⟩ := unhide HCA (by rw [← HN.out]; omega)
        obtain ⟨b2, o2, rfl, hc2⟩ := unhide HCB (by rw [← HM.out]; omega)
        have hlti : (j : Int) < (n : Int) := by omega
        obtain ⟨x, hxe⟩ : ∃ x, x = la.getD j .nul := ⟨_, rfl⟩
        obtain ⟨y, hye⟩ : ∃ y, y = lb.getD j .nul := ⟨_, rfl⟩
        obtain ⟨x0, x1, x2, x3⟩ := tk_cells (W := wr) (fun k hk => (hbw.cell (p := ⟨b1, o1 + (4 * j + k), none⟩) (tk_lt hc1 (by rw [← HN.out]; omega))).trans (hc1 j k (by rw [← HN.out]; exact hlt) hk))
        obtain ⟨y0, y1, y2, y3⟩ := tk_cells (W := wr) (fun k hk => (hbw.cell (p := ⟨b2, o2 + (4 * j + k), none⟩) (tk_lt hc2 (by rw [← HM.out]; omega))).trans (hc2 j k (by rw [← HM.out]; exact hlt) hk))
        rw [← hxe] at x0 x1 x2 x3
        rw [← hye] at y0 y1 y2 y3
        have HX := hide hxe
        have HY := hide hye
        clear hxe hye hc1 hc2
        obtain ⟨xk, xt, xl, xp⟩ := x
        obtain ⟨yk, yt, yl, yp⟩ := y
        simp only at x0 x1 x2 x3 y0 y1 y2 y3
        have hnq := tok_neq ⟨xk, xt, xl, xp⟩ ⟨yk, yt, yl, yp⟩
        have hgd := tok_guard .neq
        unfold tkC at hnq
        by_cases hxy : Tok.mk xk xt xl xp = Tok.mk yk yt yl yp
        · have HJ2 : Hid (∀ k, k < j + 1 → la.getD k .nul = lb.getD k .nul) := fun k hk => by
            by_cases e : k = j
            · subst e; rw [← HX.out, ← HY.out, hxy]
            · exact unhide HJ k (by omega)
          rw [decide_eq_true hxy] at hnq
          clear hxy
          go_wp2_with fail
          go_quiet (fail)
          go_wp2
          exact ⟨⟨j + 1, by omega, by go_num, hbw.trans ((drewn_below wr nq).mono hbw.size), HJ2⟩, by simp [intOf]; omega⟩
        · have HE : Hid (q = false) := by
            show _ = _
            rw [HQ.out, decide_eq_false fun e => hxy (by rw [HX.out, HY.out, e])]
          rw [decide_eq_false hxy] at hnq
          clear hxy
          go_wp2_with fail
          go_quiet (fail)
          go_wp2
          go_ret
          exact ⟨by rw [HE.out]; rfl, hbw.trans ((drewn_below wr nq).mono hbw.size)⟩
      · have HE : Hid (q = true) := by
          show _ = _
          rw [HQ.out, decide_eq_true (tk_all (by rw [← HN.out, ← HM.out]) fun k hk => unhide HJ k (by rw [← HN.out] at hk; omega))]
        have hlti : ¬ (j : Int) < (n : Int) := by omega
        go_wp2
        go_ret
        exact ⟨by rw [HE.out]; rfl, hbw⟩
  · have HE : Hid (q = false) := by
      show _ = _
      rw [HQ.out, decide_eq_false fun e => hnm (by rw [HN.out, HM.out, e])]
    have hni : ((n : Int) != (m : Int)) = true := by simp; omega
    go_enter Try.func11, Try.ntmps11
    go_wp2
    go_ret
    exact ⟨by rw [HE.out]; rfl, Below.refl _ _⟩
end Go.Proofs.Ytcdilcjgmcamcab
