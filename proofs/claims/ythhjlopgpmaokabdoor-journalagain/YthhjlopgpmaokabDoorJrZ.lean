/- What a writer's Step answers. -/
import Derived.Test.YthhjlopgpmaokabDoorJrY
namespace Go.Proofs.YthhjlopgpmaokabDoor
open Go.RowKit Go.Maps

set_option maxRecDepth 100000 in
set_option maxHeartbeats 4000000 in
theorem act_flush {w0 w : World} {p pj fr n st nx pw : Nat} {D : AD} {u : Value} {pr : List Int} {num : Int} (h : Wj w0 w p pj fr n st nx D pw 1 0 num pr u) (hlw : w0.heap.size ≤ pw) (hp : pr.length = 32) (hwl : ∀ i, (D.wr i).length ≤ 68719476736) (hf0 : 0 ≤ D.fl) (hf1 : D.fl ≤ 1152921504606846976) :
    Calls Tryd.prog 44 #[.pointer (some ⟨pw, 0, none⟩)] w fun e w' => e = .returned (.tuple #[]) ∧ Wj w0 w' p pj fr n st nx D.flush pw 2 0 num pr u ∧ Cq pw w w' := by
  obtain ⟨a0, a1, a2, a3, a4, a36⟩ := h.wt.cells hp
  obtain ⟨j0, j1, j2, j3, j4⟩ := h.jn.cells
  have HWN := hide (written_calls a0)
  rw [show decide ((0 : Int) < 1) = true from rfl] at HWN
  have HFL := hide (sn_flush h.sn hwl hf0 hf1)
  have HW := hide h
  have HPP := hide hp
  generalize D.flush = D2 at *
  clear h hp hwl
  go_enter Tryd.func44, Tryd.ntmps44
  go_wp2_with fail
  refine (unhide HWN).mono ?_
  rintro e wm ⟨rfl, hwm⟩
  obtain rfl := hwm.symm
  clear hwm HWN
  go_wp2_with fail
  refine (unhide HFL).mono ?_
  rintro e w2 ⟨rfl, hs2, hc2⟩
  have hW2 : Wj w0 w2 p pj fr n st nx D2 pw 1 0 num pr u := ⟨hs2, Arr.cj HW.out.jn hc2 tdk_jn, Arr.cj HW.out.wt hc2 tdk_wt⟩
  obtain ⟨d0, d1, d2, d3, d4, d36⟩ := hW2.wt.cells HPP.out
  have hf0' := Arr.frozen hW2.wt 0
  obtain ⟨hW6, hC6⟩ := hW2.set (j := 0) (x := .int .i64 2) (acts' := 2) (err' := 0) (num' := num) hlw rfl
  have HF := hide (And.intro hW6 ((cjd_wt hc2).trans hC6))
  clear HFL hs2 hc2 hW2 hW6 hC6 a0 a1 a2 a3 a4 a36 j0 j1 j2 j3 j4 HW
  go_wp2
  refine bodyPost_ret (results_none (by first | exact Tryd.results44 | rfl) _ _ _) rfl ?_
  exact ⟨rfl, HF.out⟩
theorem Wj.drewN {w0 W : World} {p pj fr n st nx : Nat} {D : AD} {pw : Nat} {acts err num : Int} {pr : List Int} {u : Value} (h : Wj w0 W p pj fr n st nx D pw acts err num pr u) (k : Nat) : Wj w0 (W.drewN k) p pj fr n st nx D pw acts err num pr u := h.below (jbelow_drewN W k)
set_option maxRecDepth 100000 in
set_option maxHeartbeats 4000000 in
theorem step_write {w0 w : World} {p pj fr n st nx pw : Nat} {D : AD} {u : Value} {rs : List JF} {pr : List Int} {num : Int} (h : Wj w0 w p pj fr n st nx D pw 0 0 num pr u) (hlo : w0.heap.size ≤ pj) (hlw : w0.heap.size ≤ pw) (ht : Tab w0) (hn1 : 1 ≤ n) (hn : n ≤ 1024) (hfr : fr + n ≤ D.la.length) (hs : st ≤ nx) (hx : nx ≤ 3000000000000) (hroom : roomE n st nx = 0) (hr : (⟨(nx : Int), pr, rs⟩ : JR).Ok) (he : encE ⟨(nx : Int), pr, rs⟩ = 0) {B : Nat} (hv : OwnJ w B u rs)
    (hw0 : 0 ≤ D.wt) (hw1 : D.wt ≤ 1152921504606846976) (hwl : ∀ i, (D.wr i).length ≤ 68719476736) :
    Calls Tryd.prog 14 #[.pointer (some ⟨pw, 0, none⟩)] w fun e w' => e = .returned (.tuple #[.bool false, .int .i64 0]) ∧ Wj w0 w' p pj fr n st (nx + 1) (D.write (fr + nx % n) (encL ⟨(nx : Int), pr, rs⟩)) pw 1 0 (nx : Int) pr u ∧ OwnJ w' B u rs ∧ Cq pw w w' := by
  have hp : pr.length = 32 := hr.len
  obtain ⟨a0, a1, _⟩ := h.wt.cells hp
  have HEN := hide (ended_calls a0 a1)
  rw [show decide ((0 : Int) ≠ 0 ∨ (0 : Int) = 2) = false from rfl] at HEN
  have HAC := hide (act_write h hlo hlw ht hn1 hn hfr hs hx hroom hr he hv hw0 hw1 hwl)
  generalize D.write (fr + nx % n) (encL ⟨(nx : Int), pr, rs⟩) = D2 at *
  have HPP := hide hp
  clear h hv hr he ht hwl hp
  go_enter Tryd.func14, Tryd.ntmps14
  go_wp2_with fail
  refine (unhide HEN).mono ?_
  rintro e wm ⟨rfl, hwm⟩
  obtain rfl := hwm.symm
  clear hwm HEN
  go_wp2_with fail
  refine (unhide HAC).mono ?_
  rintro e w2 ⟨rfl, hW2, hV2, hC2⟩
  obtain ⟨d0, d1, _⟩ := hW2.wt.cells HPP.out
  have HE2 : Hid (∀ W, W.cell? ⟨pw, 0, none⟩ = some (.int .i64 1) → W.cell? ⟨pw, 1, none⟩ = some (.int .i64 0) → Calls Tryd.prog 43 #[.pointer (some ⟨pw, 0, none⟩)] W fun e w' => e = .returned (.bool false) ∧ w' = W) := hide (fun W h0 h1 => ended_calls h0 h1)
  have HF := hide (fun k => And.intro (hW2.drewN k) (And.intro (hV2.below (jbelow_drewN w2 k)) (hC2.trans (Cq.of_below (jbelow_drewN w2 k)))))
  clear HAC hW2 hV2 hC2 a0 a1
  go_wp2_with fail
  go_quiet ((go_at_call 43; exact Calls.quiet_of_same (unhide HE2 _ d0 d1)))
  go_wp2
  go_ret2
  exact ⟨rfl, HF.out _⟩
set_option maxRecDepth 100000 in
set_option maxHeartbeats 4000000 in
theorem step_flush {w0 w : World} {p pj fr n st nx pw : Nat} {D : AD} {u : Value} {pr : List Int} {num : Int} (h : Wj w0 w p pj fr n st nx D pw 1 0 num pr u) (hlw : w0.heap.size ≤ pw) (hp : pr.length = 32) (hwl : ∀ i, (D.wr i).length ≤ 68719476736) (hf0 : 0 ≤ D.fl) (hf1 : D.fl ≤ 1152921504606846976) :
    Calls Tryd.prog 14 #[.pointer (some ⟨pw, 0, none⟩)] w fun e w' => e = .returned (.tuple #[.bool true, .int .i64 0]) ∧ Wj w0 w' p pj fr n st nx D.flush pw 2 0 num pr u ∧ Cq pw w w' := by
  obtain ⟨a0, a1, _⟩ := h.wt.cells hp
  have HEN := hide (ended_calls a0 a1)
  rw [show decide ((0 : Int) ≠ 0 ∨ (1 : Int) = 2) = false from rfl] at HEN
  have HAC := hide (act_flush h hlw hp hwl hf0 hf1)
  generalize D.flush = D2 at *
  have HPP := hide hp
  clear h hwl hp
  go_enter Tryd.func14, Tryd.ntmps14
  go_wp2_with fail
  refine (unhide HEN).mono ?_
  rintro e wm ⟨rfl, hwm⟩
  obtain rfl := hwm.symm
  clear hwm HEN
  go_wp2_with fail
  refine (unhide HAC).mono ?_
  rintro e w2 ⟨rfl, hW2, hC2⟩
  obtain ⟨d0, d1, _⟩ := hW2.wt.cells HPP.out
  have HE2 : Hid (∀ W, W.cell? ⟨pw, 0, none⟩ = some (.int .i64 2) → W.cell? ⟨pw, 1, none⟩ = some (.int .i64 0) → Calls Tryd.prog 43 #[.pointer (some ⟨pw, 0, none⟩)] W fun e w' => e = .returned (.bool true) ∧ w' = W) := hide (fun W h0 h1 => ended_calls h0 h1)
  have HF := hide (fun k => And.intro (hW2.drewN k) (hC2.trans (Cq.of_below (jbelow_drewN w2 k))))
  clear HAC hW2 hC2 a0 a1
  go_wp2_with fail
  go_quiet ((go_at_call 43; exact Calls.quiet_of_same (unhide HE2 _ d0 d1)))
  go_wp2
  go_ret2
  exact ⟨rfl, HF.out _⟩
end Go.Proofs.YthhjlopgpmaokabDoor
