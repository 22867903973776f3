/- DiskPlays, walked whole. -/
import Derived.Test.YtfgjhlnaaopdeabDkPl
namespace Go.Proofs.Ytfgjhlnaaopdeab
open Go.RowKit Go.Maps

theorem infoOpD : (Try.prog.info? 67).map (·.size) = some 6 := by kernel_rfl
/-- A script that is handed in. -/
structure IsOpsD (w : World) (v : Value) (os : List OpD) : Prop where
  val : ∃ a cap, v = .slice a os.length cap ∧ os.length ≤ cap ∧ cap ≤ 9223372036854775807 ∧ (0 < os.length → ∃ b off, a = some ⟨b, off, none⟩ ∧ b < w.heap.size ∧
    ∀ j, j < os.length → w.rangeAt b (off + j * 6) (os.getD j .nul).cells)
  each : ∀ j, j < os.length → (os.getD j .nul).ok w
section
variable {ops : Array Oper} {o : Oper} {a : Act} {w : World} {K : Act → World → Prop} {Q : Exit → Act → World → Prop} {E : Prop}
theorem load33_run {W : World} {ad : Addr} {v : Value} (h : W.cell? ad = some v) : (Instr.loadAt 26 (.pointer (some ad))).run Try.prog W = .ok v W := by
  have hu := Try.underlying26
  go_simp
theorem step_load33 (hw : Region.wanted o (yielded ops a.tmps) = true) (x : Operand) (ho : o.op = .load 26 x) {ad : Addr} {v : Value} (hx : a.eval x = .pointer (some ad)) (hc : w.cell? ad = some v) (hk : K (a.put o.dst v) w) : if Region.wanted o (yielded ops a.tmps) = true then Oper.wp Try.prog o a w K Q else E := by
  rw [if_pos hw]
  unfold Oper.wp execOp
  simp only [ho, hx, Sem.run_bind, load33_run hc, Result.andThen_ok, Sem.run_pure]
  exact hk
end
/-- Behind k of the calls. -/
def Ply (w wr : World) (k g n : Nat) : Prop := ∃ p gl gm V D R, Pr wr g p gl gm V D R ∧ Bp k D R ∧ D.la.length = n ∧ (∀ b, Fp g p gl gm V b → w.heap.size ≤ b) ∧ Below w.heap.size w wr
theorem ply_acts {w wr : World} {k g n : Nat} (h : Ply w wr k g n) : ∃ p ra rb rc, wr.cell? ⟨g, 0, none⟩ = some (.pointer (some ⟨p, 0, none⟩)) ∧ wr.rangeAt g 4 [.int .i64 ra, .int .i64 rb, .int .i64 rc] ∧ g < wr.heap.size ∧
    Calls Try.prog 22 #[.pointer (some ⟨p, 0, none⟩)] wr fun e w' => e = .returned (.agg #[.int .i64 ra, .int .i64 rb, .int .i64 rc]) ∧ Below wr.heap.size wr w' := by
  obtain ⟨p, gl, gm, V, D, R, hP, hB, hl, hF, hb⟩ := h
  obtain ⟨a1, n1, c1, a2, n2, c2, hG, _, _⟩ := hP.blk
  obtain ⟨d0, d1, d2, d3, d4⟩ := hP.dk.cells
  refine ⟨p, D.rd, D.wt, D.fl, hG.cell_of (j := 0) rfl, fun j v hv => ?_, hG.lt, acts_calls d2 d3 d4⟩
  have hr := hP.rel
  rw [hr.rd, hr.wt, hr.fl] at hG
  refine hG.cell_of (j := 4 + j) ?_
  match j, hv with
  | 0, hv => exact hv
  | 1, hv => exact hv
  | 2, hv => exact hv
theorem Ply.below {w wr w' : World} {k g n : Nat} (h : Ply w wr k g n) (hb : Below wr.heap.size wr w') : Ply w w' k g n := by
  obtain ⟨p, gl, gm, V, D, R, hP, hB, hl, hF, hbw⟩ := h
  exact ⟨p, gl, gm, V, D, R, hP.below hb, hB, hl, hF, hbw.trans (hb.mono hbw.size)⟩
theorem ply_does {w wr : World} {k g n : Nat} {o : OpD} (h : Ply w wr k g n) (hk : k ≤ 200) (hn : n ≤ 64) (hok : o.ok w) (hfar : ∀ b, Value.inBlock o.vf b → b < w.heap.size) {W : World} (hW : Below wr.heap.size wr W) :
    Calls Try.prog 29 #[.pointer (some ⟨g, 0, none⟩), .agg o.cells.toArray] W fun e w' => e = .returned (.bool true) ∧ Ply w w' (k + 1) g n := by
  obtain ⟨p, gl, gm, V, D, R, hP, hB, hl, hF, hbw⟩ := h.below hW
  refine (does_any hP hB hk (by omega) (hok.below hbw) (fun b hb hFb => by have := hfar b hb; have := hF b hFb; omega)).mono ?_
  rintro e w' ⟨rfl, p', gl', gm', V', D', R', hP', hB', hl', hft, hU⟩
  have hs := hbw.size
  refine ⟨rfl, p', gl', gm', V', D', R', hP', hB', by omega, fun b hb => ?_, hbw.trans (hU.below hs (fun x hx => hF x hx))⟩
  rcases hb with rfl | hb
  · exact hF _ (Or.inl rfl)
  · rcases hft b hb with hb | hb
    · exact hF b (Or.inr hb)
    · omega
theorem opd_far {w : World} {o : OpD} (h : o.ok w) : ∀ b, Value.inBlock o.vf b → b < w.heap.size := by
  rintro b ⟨off, n, c, hv, hn⟩
  obtain ⟨_, a, cap, hv2, _, _, hc⟩ := h.f
  rw [hv] at hv2
  injection hv2 with e1 e2 e3
  obtain ⟨b2, off2, ha, hcell⟩ := hc (by omega)
  rw [ha] at e1
  injection e1 with e1
  injection e1 with e1
  subst e1
  exact World.block_lt_of_cell? w _ (hcell 0 (by omega))
end Go.Proofs.Ytfgjhlnaaopdeab
