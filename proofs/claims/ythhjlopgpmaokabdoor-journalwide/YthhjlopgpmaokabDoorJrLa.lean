/- What is refused: Open, Add, Step. -/
import Derived.Test.YthhjlopgpmaokabDoorJrBi
import Derived.Test.YthhjlopgpmaokabDoorJrAr
namespace Go.Proofs.YthhjlopgpmaokabDoor
open Go.RowKit Go.Maps

theorem open_bad {w0 w : World} {p : Nat} {D : AD} {x0 x1 x2 : Int} (h : Sn w0 w p D) (hbad : ¬ okA D.la.length x0 x1 x2) :
    Calls Tryd.prog 11 #[.pointer (some ⟨p, 0, none⟩), .int .i64 x0, .int .i64 x1, .int .i64 x2] w fun e w' => e = .returned (.tuple #[.pointer none, .slice none 0 0, .int .i64 1]) ∧ w' = w := by
  have HR := hide (replay_bad h hbad)
  clear h hbad
  go_enter Tryd.func11, Tryd.ntmps11
  go_wp2_with fail
  refine (unhide HR).mono ?_
  rintro e w1 ⟨rfl, hw1⟩
  obtain rfl := hw1.symm
  clear hw1
  go_wp2
  go_ret3
  exact ⟨rfl, rfl⟩
set_option maxRecDepth 100000 in
set_option maxHeartbeats 2000000 in
theorem add_last {w : World} {pj p fr n st nx : Nat} {v : Value} {rs : List JF} {pr : List Int} (h : Jn w pj p fr n st nx) (hn : n ≤ 1024) (hs : st ≤ nx) (hx : nx ≤ 4000000000000) (hroom : roomE n st nx = 171) (hm : mayRs rs = true) (hv : IsJ w v rs) (hp : pr.length = 32) :
    Calls Tryd.prog 13 #[.pointer (some ⟨pj, 0, none⟩), .agg (pr.map (Value.int .u8)).toArray, v] w fun e w' => e = .returned (.tuple #[.pointer none, .int .i64 171]) ∧ Below w.heap.size w w' := by
  have hinfK := infoKof hp
  have HALL : Hid (∀ W, Below w.heap.size w W → Jn W pj p fr n st nx ∧ IsJ W v rs) := hide (fun W hW => ⟨h.below hW, hv.below hW⟩)
  have HMY : Hid (∀ W, IsJ W v rs → Calls Tryd.prog 40 #[v] W fun e w' => e = .returned (.bool true) ∧ Below W.heap.size W w') := hide (fun W h => by have := refsMay_calls h; rw [hm] at this; exact this)
  have HRM : Hid (∀ W, Jn W pj p fr n st nx → Calls Tryd.prog 41 #[.pointer (some ⟨pj, 0, none⟩)] W fun e w' => e = .returned (.int .i64 171) ∧ Below W.heap.size W w') := hide (fun W h => by have := room_calls h hn hs hx; rw [hroom] at this; exact this)
  obtain ⟨va, vc, hvs⟩ := hv.shape
  subst hvs
  generalize rs.length = rn at *
  clear h hv hm hp
  go_enter Tryd.func13, Tryd.ntmps13
  go_wp2_with (first
    | (refine wpList_boxJ rfl 33 (.tmp 1) rfl rfl ?_; intro w1 hA1 hb1 _; obtain ⟨_, j1⟩ := unhide HALL w1 hb1; have HJ1 := hide j1; have HB1 := hide hb1; clear hA1 hb1 j1)
    | fail)
  refine (unhide HMY _ HJ1.out).mono ?_
  rintro e w2 ⟨rfl, hb2⟩
  have hbw2 := below_then HB1.out hb2
  obtain ⟨j2, _⟩ := unhide HALL w2 hbw2
  have HJ2 := hide j2
  have HB2 := hide hbw2
  clear hb2 hbw2 j2 HMY HJ1 HB1
  go_wp2_with fail
  refine (unhide HRM _ HJ2.out).mono ?_
  rintro e w3 ⟨rfl, hb3⟩
  have HB3 := hide (below_then HB2.out hb3)
  clear hb3 HRM HJ2 HB2
  go_wp2
  go_ret2
  exact ⟨rfl, HB3.out⟩
set_option maxRecDepth 100000 in
set_option maxHeartbeats 2000000 in
theorem add_norefs {w : World} {pj : Nat} {pr : List Int} (hp : pr.length = 32) :
    Calls Tryd.prog 13 #[.pointer (some ⟨pj, 0, none⟩), .agg (pr.map (Value.int .u8)).toArray, .slice none 0 0] w fun e w' => e = .returned (.tuple #[.pointer none, .int .i64 172]) ∧ Below w.heap.size w w' := by
  have hinfK := infoKof hp
  have HMY : Hid (∀ W, Calls Tryd.prog 40 #[.slice none 0 0] W fun e w' => e = .returned (.bool false) ∧ Below W.heap.size W w') := hide (fun W => refsMay_calls (IsJ.nil W))
  clear hp
  go_enter Tryd.func13, Tryd.ntmps13
  go_wp2_with (first
    | (refine wpList_boxJ rfl 33 (.tmp 1) rfl rfl ?_; intro w1 hA1 hb1 _; have HB1 := hide hb1; clear hA1 hb1)
    | fail)
  refine (unhide HMY _).mono ?_
  rintro e w2 ⟨rfl, hb2⟩
  have HB2 := hide (below_then HB1.out hb2)
  clear hb2 HB1
  go_wp2
  go_ret2
  exact ⟨rfl, HB2.out⟩
set_option maxRecDepth 100000 in
set_option maxHeartbeats 4000000 in
theorem act_no {w0 w : World} {p pj fr n st nx pw : Nat} {D : AD} {u : Value} {pr : List Int} {num : Int} (h : Wj w0 w p pj fr n st nx D pw 0 0 num pr u) (hlw : w0.heap.size ≤ pw) (hn : n ≤ 1024) (hs : st ≤ nx) (hx : nx ≤ 3000000000000) (hroom : roomE n st nx = 171) (hp : pr.length = 32) :
    Calls Tryd.prog 44 #[.pointer (some ⟨pw, 0, none⟩)] w fun e w' => e = .returned (.tuple #[]) ∧ Wj w0 w' p pj fr n st nx D pw 0 171 num pr u ∧ Cq pw w w' := by
  obtain ⟨a0, a1, a2, a3, a4, a36⟩ := h.wt.cells hp
  have HWN := hide (written_calls a0)
  rw [show decide ((0 : Int) < 0) = false from rfl] at HWN
  have HRM : Hid (Calls Tryd.prog 41 #[.pointer (some ⟨pj, 0, none⟩)] w fun e w' => e = .returned (.int .i64 171) ∧ Below w.heap.size w w') := hide (by have := room_calls h.jn hn hs (by omega); rw [hroom] at this; exact this)
  have HW := hide h
  have HPP := hide hp
  clear h hp
  go_enter Tryd.func44, Tryd.ntmps44
  go_wp2_with fail
  refine (unhide HWN).mono ?_
  rintro e wm ⟨rfl, hwm⟩
  obtain rfl := hwm.symm
  clear hwm HWN
  go_wp2_with fail
  refine (unhide HRM).mono ?_
  rintro e w2 ⟨rfl, hb2⟩
  have hW2 := HW.out.below hb2
  obtain ⟨b0, b1, b2, b3, b4, b36⟩ := hW2.wt.cells HPP.out
  have hfr1 := Arr.frozen hW2.wt 1
  obtain ⟨hW3, hC3⟩ := hW2.set (j := 1) (x := .int .i64 171) (acts' := 0) (err' := 171) (num' := num) hlw rfl
  have HF := hide (And.intro hW3 ((Cq.of_below hb2).trans hC3))
  clear HRM hb2 hW2 hC3 hW3 a0 a1 a2 a3 a4 a36 HW
  go_wp2
  refine bodyPost_ret (results_none (by first | exact Tryd.results44 | rfl) _ _ _) rfl ?_
  exact ⟨rfl, HF.out⟩
set_option maxRecDepth 100000 in
set_option maxHeartbeats 4000000 in
theorem step_no {w0 w : World} {p pj fr n st nx pw : Nat} {D : AD} {u : Value} {pr : List Int} {num : Int} (h : Wj w0 w p pj fr n st nx D pw 0 0 num pr u) (hlw : w0.heap.size ≤ pw) (hn : n ≤ 1024) (hs : st ≤ nx) (hx : nx ≤ 3000000000000) (hroom : roomE n st nx = 171) (hp : pr.length = 32) :
    Calls Tryd.prog 14 #[.pointer (some ⟨pw, 0, none⟩)] w fun e w' => e = .returned (.tuple #[.bool true, .int .i64 171]) ∧ Wj w0 w' p pj fr n st nx D pw 0 171 num pr u ∧ Cq pw w w' := by
  obtain ⟨a0, a1, _⟩ := h.wt.cells hp
  have HEN := hide (ended_calls a0 a1)
  rw [show decide ((0 : Int) ≠ 0 ∨ (0 : Int) = 2) = false from rfl] at HEN
  have HAC := hide (act_no h hlw hn hs hx hroom hp)
  have HPP := hide hp
  clear h hp
  go_enter Tryd.func14, Tryd.ntmps14
  go_wp2_with fail
  refine (unhide HEN).mono ?_
  rintro e wm ⟨rfl, hwm⟩
  obtain rfl := hwm.symm
  clear hwm HEN
  go_wp2_with fail
  refine (unhide HAC).mono ?_
  rintro e w2 ⟨rfl, hW2, hC2⟩
  obtain ⟨d0, d1, _⟩ := hW2.wt.cells HPP.out
  have HE2 : Hid (∀ W, W.cell? ⟨pw, 0, none⟩ = some (.int .i64 0) → W.cell? ⟨pw, 1, none⟩ = some (.int .i64 171) → Calls Tryd.prog 43 #[.pointer (some ⟨pw, 0, none⟩)] W fun e w' => e = .returned (.bool true) ∧ w' = W) := hide (fun W h0 h1 => ended_calls h0 h1)
  have HF := hide (fun k => And.intro (hW2.drewN k) (hC2.trans (Cq.of_below (jbelow_drewN w2 k))))
  clear HAC hW2 hC2 a0 a1
  go_wp2_with fail
  go_quiet ((go_at_call 43; exact Calls.quiet_of_same (unhide HE2 _ d0 d1)))
  go_wp2
  go_ret2
  exact ⟨rfl, HF.out _⟩
end Go.Proofs.YthhjlopgpmaokabDoor
