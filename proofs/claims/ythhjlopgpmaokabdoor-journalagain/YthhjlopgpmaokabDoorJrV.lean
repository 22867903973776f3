/- Journals in memory: what Clone, Full, Next, room and Open answer. -/
import Derived.Test.YthhjlopgpmaokabDoorJrU
import Derived.Laws.Cover3
namespace Go.Proofs.YthhjlopgpmaokabDoor
open Go.RowKit Go.Maps

theorem eqlJ_nil (a : Addr) (n c : Nat) (W : World) : (binOp .eql 34 (.slice (some a) n c) (.slice none 0 0)).run Tryd.prog W = .ok (.bool false) W := by
  simp only [binOp]
  simp [run_equal_slice_nil W 34 73 (some a) n c Tryd.underlying34]
theorem bsl0_run (W : World) : (Instr.buildSlice 34 0 #[]).run Tryd.prog W = .ok (.slice (some ⟨W.heap.size, 0, none⟩) 0 0) (W.alloc (.cells #[] 73)) := by kernel_rfl
section
variable {ops : Array Oper} {rest : List Oper} {o : Oper} {a : Act} {Q : Exit → Act → World → Prop} {w : World} {K : Act → World → Prop} {E : Prop}
theorem wpList_bslice0 (hgd : o.guard = none) (ho : o.op = .buildSlice 34 0 #[]) (hk : wpList Tryd.prog ops Q rest (a.put o.dst (.slice (some ⟨w.heap.size, 0, none⟩) 0 0)) (w.alloc (.cells #[] 73))) : wpList Tryd.prog ops Q (o :: rest) a w := by
  refine wpList_plain hgd fun K hK => ?_
  unfold Oper.wp execOp
  simp only [ho, List.map_toArray, List.map_nil, Sem.run_bind, bsl0_run, Result.andThen_ok, Sem.run_pure]
  exact hK _ _ hk
end
set_option maxRecDepth 100000 in
set_option maxHeartbeats 1000000 in
theorem clone_calls {w : World} {v : Value} {l : List JF} (h : IsJ w v l) (h1 : 1 ≤ l.length) (h8 : l.length ≤ 1000) : Calls Tryd.prog 42 #[v] w fun e w' => ∃ u, e = .returned u ∧ OwnJ w' w.heap.size u l ∧ Below w.heap.size w w' := by
  have hb := jalloc_below w (.cells #[] 73)
  have HJ := hide (h.below hb)
  have HO : Hid (OwnJ (w.alloc (.cells #[] 73)) w.heap.size (.slice (some ⟨w.heap.size, 0, none⟩) 0 0) []) := hide ⟨by simp, ⟨by simp [jfsV], Or.inr ⟨w.heap.size, 0, #[], rfl, Nat.le_refl _, heap_alloc_last w _, Nat.le_refl _, by decide, rfl, rfl⟩⟩⟩
  have HB := hide hb
  have hs := hb.size
  obtain ⟨_, va, vc, rfl, hlc, hvm, _, hcell⟩ := id h
  obtain ⟨b, o, rfl, _⟩ := hcell (by omega)
  have hlb : ([] : List JF).length + l.length ≤ 100000000000 := by simp; omega
  generalize hln : l.length = n at *
  have hnil := eqlJ_nil ⟨b, o, none⟩ n vc w
  clear h hb hcell
  go_enter Tryd.func42, Tryd.ntmps42
  go_wp2_with (first
    | (refine wpList_bslice0 rfl rfl ?_)
    | (at_builtin; refine wpList_appJ rfl (.tmp 5) (.tmp 6) rfl rfl HO.out rfl HJ.out (by rw [hln]; exact hlb) hs ?_; intro v6 w6 ho6 hg6 hvb
       have HB6 := hide (jbelow_app HB.out hg6 hs hvb)
       rw [List.nil_append] at ho6
       have HO6 := hide ho6
       clear ho6 hg6 hvb))
  go_ret
  exact ⟨_, rfl, HO6.out, HB6.out⟩
theorem jbelow_drewN (w : World) (n : Nat) : Below w.heap.size w (w.drewN n) := by
  induction n with
  | zero => exact Below.refl _ _
  | succ n ih => exact ih.drew
/-- A journal. -/
def Jn (W : World) (pj p fr n st nx : Nat) : Prop := Arr W pj 91 [.pointer (some ⟨p, 0, none⟩), .int .i64 (fr : Int), .int .i64 (n : Int), .int .i64 (st : Int), .int .i64 (nx : Int)]
theorem Jn.cells {W : World} {pj p fr n st nx : Nat} (h : Jn W pj p fr n st nx) : W.cell? ⟨pj, 0, none⟩ = some (.pointer (some ⟨p, 0, none⟩)) ∧ W.cell? ⟨pj, 1, none⟩ = some (.int .i64 (fr : Int)) ∧ W.cell? ⟨pj, 2, none⟩ = some (.int .i64 (n : Int)) ∧ W.cell? ⟨pj, 3, none⟩ = some (.int .i64 (st : Int)) ∧ W.cell? ⟨pj, 4, none⟩ = some (.int .i64 (nx : Int)) :=
  ⟨Arr.cell h 0, Arr.cell h 1, Arr.cell h 2, Arr.cell h 3, Arr.cell h 4⟩
set_option maxRecDepth 100000 in
set_option maxHeartbeats 1000000 in
theorem next_calls {w : World} {pj p fr n st nx : Nat} (h : Jn w pj p fr n st nx) : Calls Tryd.prog 18 #[.pointer (some ⟨pj, 0, none⟩)] w fun e w' => e = .returned (.int .i64 (nx : Int)) ∧ w' = w := by
  obtain ⟨c0, c1, c2, c3, c4⟩ := h.cells
  clear h
  go_enter Tryd.func18, Tryd.ntmps18
  go_wp2
  go_ret
  exact ⟨rfl, rfl⟩
set_option maxRecDepth 100000 in
set_option maxHeartbeats 1000000 in
theorem full_calls {w : World} {pj p fr n st nx : Nat} (h : Jn w pj p fr n st nx) (_hn : n ≤ 1024) (hs : st ≤ nx) (hx : nx ≤ 4000000000000) : Calls Tryd.prog 17 #[.pointer (some ⟨pj, 0, none⟩)] w fun e w' => e = .returned (.bool (decide (n ≤ nx - st))) ∧ Below w.heap.size w w' := by
  obtain ⟨c0, c1, c2, c3, c4⟩ := h.cells
  have hd : (nx : Int) - (st : Int) = ((nx - st : Nat) : Int) := by omega
  have hdw : IntKind.i64.wrap ((nx : Int) - (st : Int)) = ((nx - st : Nat) : Int) := by rw [hd]; exact IntWalk.i64_in _ (by omega)
  generalize nx - st = d at *
  clear h
  go_enter Tryd.func17, Tryd.ntmps17
  go_wp2_with fail
  go_quiet (fail)
  go_wp2
  go_ret
  exact ⟨rfl, jbelow_drewN w _⟩
/-- Why no record may come next. -/
def roomE (n st nx : Nat) : Int := if 1099511627776 < nx then 171 else if n ≤ nx - st then 170 else 0
set_option maxRecDepth 100000 in
set_option maxHeartbeats 1000000 in
theorem room_calls {w : World} {pj p fr n st nx : Nat} (h : Jn w pj p fr n st nx) (hn : n ≤ 1024) (hs : st ≤ nx) (hx : nx ≤ 4000000000000) : Calls Tryd.prog 41 #[.pointer (some ⟨pj, 0, none⟩)] w fun e w' => e = .returned (.int .i64 (roomE n st nx)) ∧ Below w.heap.size w w' := by
  obtain ⟨c0, c1, c2, c3, c4⟩ := h.cells
  have HF := hide (full_calls h hn hs hx)
  unfold roomE
  by_cases h1 : 1099511627776 < nx
  · rw [if_pos h1]
    have hI : 1099511627776 < (nx : Int) := by omega
    clear h HF
    go_enter Tryd.func41, Tryd.ntmps41
    go_wp2
    go_ret
    exact ⟨rfl, Below.refl _ _⟩
  · rw [if_neg h1]
    have hI : decide (1099511627776 < (nx : Int)) = false := by simp; omega
    by_cases h2 : n ≤ nx - st
    · rw [if_pos h2]
      rw [decide_eq_true h2] at HF
      clear h h2
      go_enter Tryd.func41, Tryd.ntmps41
      go_wp2_with fail
      refine (unhide HF).mono ?_
      rintro e w2 ⟨rfl, hb⟩
      have HB := hide hb
      clear hb HF
      go_wp2
      go_ret
      exact ⟨rfl, HB.out⟩
    · rw [if_neg h2]
      rw [decide_eq_false h2] at HF
      clear h h2
      go_enter Tryd.func41, Tryd.ntmps41
      go_wp2_with fail
      refine (unhide HF).mono ?_
      rintro e w2 ⟨rfl, hb⟩
      have HB := hide hb
      clear hb HF
      go_wp2
      go_ret
      exact ⟨rfl, HB.out⟩
theorem RpA.below {w0 w W W2 : World} {p : Nat} {D : AD} {fr n st : Nat} {v : Value} (h : RpA w0 w W p D fr n st v) (hb : Below W.heap.size W W2) : RpA w0 w W2 p D fr n st v := by
  obtain ⟨⟨m, h1, h2⟩, h3, V, h4⟩ := h
  exact ⟨⟨m, h1, h2.below hb⟩, h3.trans (Cj.of_below hb), V, h4.below hb⟩
theorem bJn (p : Nat) (fr n st nx : Int) (W : World) : (Instr.build 91 #[(0, .pointer (some ⟨p, 0, none⟩)), (1, .int .i64 fr), (2, .int .i64 n), (3, .int .i64 st), (4, .int .i64 nx)]).run Tryd.prog W = .ok (.agg #[.pointer (some ⟨p, 0, none⟩), .int .i64 fr, .int .i64 n, .int .i64 st, .int .i64 nx]) W := by kernel_rfl
set_option maxRecDepth 100000 in
set_option maxHeartbeats 2000000 in
theorem open_calls {w0 w : World} {p fr n st : Nat} {D : AD} (h : Sn w0 w p D) (ht : Tab w0) (hr0 : 0 ≤ D.rd) (hr1 : D.rd ≤ 1000000000000000) (hn1 : 1 ≤ n) (hn : n ≤ 1024) (hfr : fr + n ≤ D.la.length) (hst : st ≤ 1099511627777) :
    Calls Tryd.prog 11 #[.pointer (some ⟨p, 0, none⟩), .int .i64 (fr : Int), .int .i64 (n : Int), .int .i64 (st : Int)] w fun e w' => ∃ pj v, e = .returned (.tuple #[.pointer (some ⟨pj, 0, none⟩), v, .int .i64 0]) ∧ RpA w0 w w' p D fr n st v ∧ Jn w' pj p fr n st (st + (repL D.now fr n n st).length) ∧ w.heap.size ≤ pj := by
  have HR := hide (replay_calls h ht hr0 hr1 hn1 hn hfr hst)
  have HLE := hide (repL_len D.now fr n n st)
  have hbj := bJn
  clear h ht
  go_enter Tryd.func11, Tryd.ntmps11
  go_wp2_with fail
  refine (unhide HR).mono ?_
  rintro e w2 ⟨v, rfl, hA⟩
  obtain ⟨V, hV⟩ := hA.own
  obtain ⟨a, c, hvs, hlc⟩ := hV.shape
  obtain ⟨q, hq⟩ : ∃ q, q = (repL D.now fr n n st).length := ⟨_, rfl⟩
  rw [← hq] at hvs hlc HLE
  subst hvs
  have hq9 : q ≤ 1024 := by have := HLE.out; omega
  have hsum : (st : Int) + (q : Int) = ((st + q : Nat) : Int) := by omega
  have hsumw : IntKind.i64.wrap ((st : Int) + (q : Int)) = ((st + q : Nat) : Int) := by rw [hsum]; exact IntWalk.i64_in _ (by omega)
  have hcs := hA.cj.size
  have HA := hide hA
  obtain ⟨nx, hnx⟩ : ∃ nx, nx = st + q := ⟨_, rfl⟩
  rw [← hnx] at hsum hsumw
  have HNX : Hid (nx = st + (repL D.now fr n n st).length) := hide (by rw [hnx, hq])
  clear HR hA hV hq hnx
  go_wp2_with (first
    | (refine wpList_boxJ rfl 91 (.tmp 32) rfl (cs := [.pointer (some ⟨p, 0, none⟩), .int .i64 (fr : Int), .int .i64 (n : Int), .int .i64 (st : Int), .int .i64 (nx : Int)]) rfl ?_; intro w3 hA3 hb3 _
       have HA3 := hide (HA.out.below hb3)
       have HJ3 : Hid (Jn w3 w2.heap.size p fr n st nx) := hide hA3
       clear hA3 hb3))
  go_ret3
  rw [← HNX.out]
  exact ⟨_, _, rfl, HA3.out, HJ3.out, hcs⟩
end Go.Proofs.YthhjlopgpmaokabDoor
