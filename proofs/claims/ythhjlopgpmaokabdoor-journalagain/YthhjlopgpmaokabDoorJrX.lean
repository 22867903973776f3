/- What write, act and Step answer. -/
import Derived.Test.YthhjlopgpmaokabDoorJrW
namespace Go.Proofs.YthhjlopgpmaokabDoor
open Go.RowKit Go.Maps

theorem sn_write {w0 W : World} {p i B : Nat} {D : AD} {v : Value} {s : List Int} (h : Sn w0 W p D) (hi : i < D.la.length) (hw0 : 0 ≤ D.wt) (hw1 : D.wt ≤ 1152921504606846976) (hwl : (D.wr i).length ≤ 68719476736) (hs : IsSec s) (ho : Own8 W B v s) :
    Calls Tryd.prog 67 #[.pointer (some ⟨p, 0, none⟩), .int .i64 (i : Int), v] W fun e w' => e = .returned (.int .i64 0) ∧ Sn w0 w' p (D.write i s) ∧ Cj TDk W w' := by
  obtain ⟨gl, gm, V, h1, h2, h3⟩ := h
  rcases ho.1.2 with ⟨rfl, h0⟩ | ⟨g, cap, cur, rfl, hb, hg, hle, hm, hsz, htk⟩
  · have := hs.1; omega
  · have hr : W.rangeAt g 0 (u8V s) := fun j u hu => by
      have := World.ownsRow.cells (g := g) ho.1 rfl j u hu
      rw [Addr.add_lit] at this
      exact this
    have hF : ¬ Ft p gl gm V g := fun hF => by
      have := h1.typ hF hg
      unfold TDk at this
      revert this
      decide
    rw [hs.1]
    refine (write_good h1 hi hw0 hw1 hwl hs hr (Array.getElem?_eq_some_iff.1 hg).1 hF).mono ?_
    rintro e w' ⟨rfl, V', q1, q2, q3⟩
    refine ⟨rfl, ⟨gl, gm, V', q1, fun b hb2 => ?_, h3.trans (q3.below h3.size h2)⟩, Cj.of_up h1 q3 (fun _ h => h)⟩
    rcases q2 b hb2 with hb2 | hb2
    · exact h2 b hb2
    · exact Nat.le_trans h3.size hb2
theorem sn_flush {w0 W : World} {p : Nat} {D : AD} (h : Sn w0 W p D) (hwl : ∀ i, (D.wr i).length ≤ 68719476736) (hf0 : 0 ≤ D.fl) (hf1 : D.fl ≤ 1152921504606846976) :
    Calls Tryd.prog 60 #[.pointer (some ⟨p, 0, none⟩)] W fun e w' => e = .returned (.tuple #[]) ∧ Sn w0 w' p D.flush ∧ Cj TDk W w' := by
  obtain ⟨gl, gm, V, h1, h2, h3⟩ := h
  refine (flush_calls h1 hwl hf0 hf1).mono ?_
  rintro e w' ⟨rfl, gm', q1, q2, q3⟩
  have hlo : ∀ b, b = p ∨ b = gl → w0.heap.size ≤ b := fun b hb => h2 b (hb.imp_right Or.inl)
  refine ⟨rfl, ⟨gl, gm', _, q2, fun b hb => ?_, h3.trans (q3.below h3.size hlo)⟩, Cj.of_up h1 q3 (fun b hb => hb.imp_right Or.inl)⟩
  rcases hb with rfl | rfl | rfl | ⟨i, e⟩
  · exact hlo _ (Or.inl rfl)
  · exact hlo _ (Or.inr rfl)
  · exact Nat.le_trans h3.size q1
  · cases e
/-- What a journal's write changes. -/
def TJn (t : TypeId) : Prop := TDk t ∨ t = 91
/-- What a writer's Step changes. -/
def TWt (t : TypeId) : Prop := TJn t ∨ t = 97
theorem tjn_wt : ¬ TJn 97 := by unfold TJn TDk; decide
theorem tjn_ref : ¬ TJn 73 := by unfold TJn TDk; decide
theorem tjn_key : ¬ TJn 33 := by unfold TJn TDk; decide
theorem tdk_jn : ¬ TDk 91 := by unfold TDk; decide
theorem tdk_wt : ¬ TDk 97 := by unfold TDk; decide
theorem store3 {W : World} {b o : Nat} {u : Value} {x : Int} (h : W.cell? ⟨b, o, none⟩ = some u) (hf : W.frozen? ⟨b, o, none⟩ = false) : (Instr.storeAt 3 (.pointer (some ⟨b, o, none⟩)) (.int .i64 x)).run Tryd.prog W = .ok () (W.setCell ⟨b, o, none⟩ (.int .i64 x)) := by
  have hu := Tryd.underlying3
  go_simp
set_option maxRecDepth 100000 in
set_option maxHeartbeats 4000000 in
theorem jwrite_calls {w0 w : World} {p pj fr n st nx : Nat} {D : AD} {v : Value} {rs : List JF} {pr : List Int} (hS : Sn w0 w p D) (hJ : Jn w pj p fr n st nx) (hlo : w0.heap.size ≤ pj) (ht : Tab w0) (hn1 : 1 ≤ n) (hn : n ≤ 1024) (hfr : fr + n ≤ D.la.length) (hx : nx ≤ 3000000000000) (hr : (⟨(nx : Int), pr, rs⟩ : JR).Ok) (he : encE ⟨(nx : Int), pr, rs⟩ = 0) (hv : IsJ w v rs)
    (hw0 : 0 ≤ D.wt) (hw1 : D.wt ≤ 1152921504606846976) (hwl : ∀ i, (D.wr i).length ≤ 68719476736) :
    Calls Tryd.prog 61 #[.pointer (some ⟨pj, 0, none⟩), .agg (pr.map (Value.int .u8)).toArray, v] w fun e w' => e = .returned (.int .i64 (nx : Int)) ∧ Sn w0 w' p (D.write (fr + nx % n) (encL ⟨(nx : Int), pr, rs⟩)) ∧ Jn w' pj p fr n st (nx + 1) ∧ Cj TJn w w' := by
  have hp : pr.length = 32 := hr.len
  have hinfK := infoKof hp
  have hla := hS.ok.hi
  obtain ⟨_, _, _, h8, _⟩ := encE_ok he
  have hsec : IsSec (encL ⟨(nx : Int), pr, rs⟩) := ⟨encL_len hr h8, encL_by hr h8⟩
  have hmod := Nat.mod_lt nx (show 0 < n by omega)
  obtain ⟨va, vc, hvs⟩ := hv.shape
  subst hvs
  generalize hrn : rs.length = rn at *
  obtain ⟨c0, c1, c2, c3, c4⟩ := hJ.cells
  have HALL : Hid (∀ W, Below w.heap.size w W → Sn w0 W p D ∧ Jn W pj p fr n st nx ∧ IsJ W (.slice va rn vc) rs ∧ Tab W) := hide (fun W hW => ⟨hS.below hW, hJ.below hW, hv.below hW, ht.below (hS.below hW).be⟩)
  have HENC : Hid (∀ W, Below w.heap.size w W → Calls Tryd.prog 30 #[.agg (jrV ⟨(nx : Int), pr, rs⟩ (.slice va rn vc)).toArray] W fun e w' => ∃ u, e = .returned (.tuple #[u, .int .i64 0]) ∧ Own8 w' W.heap.size u (encL ⟨(nx : Int), pr, rs⟩) ∧ Below W.heap.size W w') := hide (fun W hW => by
    have := jenc_calls hr ((hv.below hW)) (ht.below (hS.below hW).be)
    rw [he, encR_yes he] at this
    exact this)
  have hb3 := fun W => bR3 hp (nx : Int) rs va rn vc W
  obtain ⟨i, hi⟩ : ∃ i, i = fr + nx % n := ⟨_, rfl⟩
  have hil : i < D.la.length := by omega
  have HPL : Hid (∀ W, Calls Tryd.prog 48 #[.int .i64 (fr : Int), .int .i64 (n : Int), .int .i64 (nx : Int)] W fun e w' => e = .returned (.int .i64 (i : Int)) ∧ w' = W) := hide (fun W => by rw [hi]; exact jplace_calls W hn1 hn (by omega) (by omega))
  have HWR : Hid (∀ W B u, Sn w0 W p D → Own8 W B u (encL ⟨(nx : Int), pr, rs⟩) → Calls Tryd.prog 67 #[.pointer (some ⟨p, 0, none⟩), .int .i64 (i : Int), u] W fun e w' => e = .returned (.int .i64 0) ∧ Sn w0 w' p (D.write i (encL ⟨(nx : Int), pr, rs⟩)) ∧ Cj TDk W w') := hide (fun W B u hS2 ho => sn_write hS2 hil hw0 hw1 (hwl i) hsec ho)
  rw [← hi]
  have hnxw : IntKind.i64.wrap ((nx : Int) + 1) = ((nx + 1 : Nat) : Int) := by rw [IntKind.wrap_i64]; omega
  generalize hE : encL ⟨(nx : Int), pr, rs⟩ = EL at *
  generalize hjr : jrV ⟨(nx : Int), pr, rs⟩ (.slice va rn vc) = jc at *
  clear hS hJ hr he hv hsec hmod hi hE hjr ht hwl
  go_enter Tryd.func61, Tryd.ntmps61
  go_wp2_with (first
    | (refine wpList_boxJ rfl 33 (.tmp 1) rfl rfl ?_; intro w1 hA1 hb1 _
       obtain ⟨_, j1, _, _⟩ := unhide HALL w1 hb1
       obtain ⟨d0, d1, d2, d3, d4⟩ := j1.cells
       have hrk := hA1.rangeJ
       have HB1 := hide hb1
       clear hA1 hb1 j1 c0 c1 c2 c3 c4)
    | (refine wpList_loadJ rfl 33 (.tmp 4) rfl _ 0 rfl (pr.map (Value.int .u8)) _ hrk Tryd.underlying33 rfl hinfK ?_)
    | (refine wpList_bld3J rfl 52 0 1 2 (.tmp 15) (.tmp 16) (.tmp 17) rfl (vx := .int .i64 (nx : Int)) (vy := .agg (pr.map (Value.int .u8)).toArray) (vz := .slice va rn vc) rfl rfl rfl hb3 ?_)
    | fail)
  refine (unhide HENC _ HB1.out).mono ?_
  rintro e w2 ⟨u, rfl, ho2, hb2⟩
  have hbw2 := below_then HB1.out hb2
  obtain ⟨s2, j2, _, _⟩ := unhide HALL w2 hbw2
  obtain ⟨ua, un, uc, rfl⟩ := ho2.shape
  have HO2 := hide ho2
  have HS2 := hide s2
  have HJ2 := hide j2
  have HC2 : Hid (∀ W, Cj TDk w2 W → Jn W pj p fr n st nx) := hide (fun W hW => Arr.cj j2 hW tdk_jn)
  have HCJ : Hid (∀ W, Cj TDk w2 W → Cj TJn w W) := hide (fun W hW => ((Cj.of_below hbw2).trans hW).mono (fun _ h => Or.inl h))
  clear HENC ho2 hb2 hbw2 s2 j2 d0 d1 d2 d3 d4 hrk HB1
  have HX0 : Hid (Cj TDk w2 w2.drew ∧ Sn w0 w2.drew p D ∧ Own8 w2.drew w1.heap.size (.slice ua un uc) EL) := hide ⟨Cj.of_below (Below.refl _ _).drew, HS2.out.below (Below.refl _ _).drew, HO2.out.below (Below.refl _ _).drew⟩
  go_wp2_with fail
  refine wp_region_held_drew (S := fun W => W.cell? ⟨pj, 0, none⟩ = some (.pointer (some ⟨p, 0, none⟩)) ∧ W.cell? ⟨pj, 1, none⟩ = some (.int .i64 (fr : Int)) ∧ W.cell? ⟨pj, 2, none⟩ = some (.int .i64 (n : Int))) (by kernel_rfl) (⟨(unhide HC2 _ HX0.out.1).cells.1, (unhide HC2 _ HX0.out.1).cells.2.1, (unhide HC2 _ HX0.out.1).cells.2.2.1⟩) (fun hHeld => ?_)
  refine wpAnyH_take (i := 0) (v := .pointer (some ⟨pj, 0, none⟩)) rfl (by kernel_rfl) (by kernel_rfl) (by kernel_rfl) (fun _ _ _ h => h) (Or.inl ⟨by rfl, fun w hSw => by obtain ⟨hS1, hS2, hS3⟩ := hSw; go_simp⟩) (by assumption) ?_
  simp only [List.getElem_toArray, List.getElem_cons_zero, Act.put, List.setIfInBounds_toArray, List.set_cons_zero, List.set_cons_succ]
  refine wpAnyH_take (i := 1) (v := .pointer (some ⟨pj, 0, none⟩)) rfl (by kernel_rfl) (by kernel_rfl) (by kernel_rfl) (fun _ _ _ h => h) (Or.inl ⟨by rfl, fun w hSw => by obtain ⟨hS1, hS2, hS3⟩ := hSw; go_simp⟩) (by assumption) ?_
  simp only [List.getElem_toArray, List.getElem_cons_succ, List.getElem_cons_zero, Act.put, List.setIfInBounds_toArray, List.set_cons_zero, List.set_cons_succ]
  refine wpAnyH_take (i := 2) (v := .pointer (some ⟨pj, 0, none⟩)) rfl (by kernel_rfl) (by kernel_rfl) (by kernel_rfl) (fun _ _ _ h => h) (Or.inl ⟨by rfl, fun w hSw => by obtain ⟨hS1, hS2, hS3⟩ := hSw; go_simp⟩) (by assumption) ?_
  simp only [List.getElem_toArray, List.getElem_cons_succ, List.getElem_cons_zero, Act.put, List.setIfInBounds_toArray, List.set_cons_zero, List.set_cons_succ]
  refine wpAnyH_take (i := 3) (v := .pointer (some ⟨p, 0, none⟩)) rfl (by kernel_rfl) (by kernel_rfl) (by kernel_rfl) (fun _ _ _ h => h) (Or.inl ⟨by rfl, fun w hSw => by obtain ⟨hS1, hS2, hS3⟩ := hSw; go_simp⟩) (by assumption) ?_
  simp only [List.getElem_toArray, List.getElem_cons_succ, List.getElem_cons_zero, Act.put, List.setIfInBounds_toArray, List.set_cons_zero, List.set_cons_succ]
  refine wpAnyH_take (i := 4) (v := .pointer (some ⟨pj, 0, none⟩)) rfl (by kernel_rfl) (by kernel_rfl) (by kernel_rfl) (fun _ _ _ h => h) (Or.inl ⟨by rfl, fun w hSw => by obtain ⟨hS1, hS2, hS3⟩ := hSw; go_simp⟩) (by assumption) ?_
  simp only [List.getElem_toArray, List.getElem_cons_succ, List.getElem_cons_zero, Act.put, List.setIfInBounds_toArray, List.set_cons_zero, List.set_cons_succ]
  refine wpAnyH_take (i := 5) (v := .pointer (some ⟨pj, 0, none⟩)) rfl (by kernel_rfl) (by kernel_rfl) (by kernel_rfl) (fun _ _ _ h => h) (Or.inl ⟨by rfl, fun w hSw => by obtain ⟨hS1, hS2, hS3⟩ := hSw; go_simp⟩) (by assumption) ?_
  simp only [List.getElem_toArray, List.getElem_cons_succ, List.getElem_cons_zero, Act.put, List.setIfInBounds_toArray, List.set_cons_zero, List.set_cons_succ]
  refine wpAnyH_take (i := 6) (v := .pointer (some ⟨pj, 1, none⟩)) rfl (by kernel_rfl) (by kernel_rfl) (by kernel_rfl) (fun _ _ _ h => h) (Or.inl ⟨by rfl, fun w hSw => by obtain ⟨hS1, hS2, hS3⟩ := hSw; go_simp⟩) (by assumption) ?_
  simp only [List.getElem_toArray, List.getElem_cons_succ, List.getElem_cons_zero, Act.put, List.setIfInBounds_toArray, List.set_cons_zero, List.set_cons_succ]
  refine wpAnyH_take (i := 7) (v := .int .i64 (fr : Int)) rfl (by kernel_rfl) (by kernel_rfl) (by kernel_rfl) (fun _ _ _ h => h) (Or.inl ⟨by rfl, fun w hSw => by obtain ⟨hS1, hS2, hS3⟩ := hSw; go_simp⟩) (by assumption) ?_
  simp only [List.getElem_toArray, List.getElem_cons_succ, List.getElem_cons_zero, Act.put, List.setIfInBounds_toArray, List.set_cons_zero, List.set_cons_succ]
  refine wpAnyH_take (i := 8) (v := .pointer (some ⟨pj, 0, none⟩)) rfl (by kernel_rfl) (by kernel_rfl) (by kernel_rfl) (fun _ _ _ h => h) (Or.inl ⟨by rfl, fun w hSw => by obtain ⟨hS1, hS2, hS3⟩ := hSw; go_simp⟩) (by assumption) ?_
  simp only [List.getElem_toArray, List.getElem_cons_succ, List.getElem_cons_zero, Act.put, List.setIfInBounds_toArray, List.set_cons_zero, List.set_cons_succ]
  refine wpAnyH_take (i := 9) (v := .pointer (some ⟨pj, 0, none⟩)) rfl (by kernel_rfl) (by kernel_rfl) (by kernel_rfl) (fun _ _ _ h => h) (Or.inl ⟨by rfl, fun w hSw => by obtain ⟨hS1, hS2, hS3⟩ := hSw; go_simp⟩) (by assumption) ?_
  simp only [List.getElem_toArray, List.getElem_cons_succ, List.getElem_cons_zero, Act.put, List.setIfInBounds_toArray, List.set_cons_zero, List.set_cons_succ]
  refine wpAnyH_take (i := 10) (v := .pointer (some ⟨pj, 2, none⟩)) rfl (by kernel_rfl) (by kernel_rfl) (by kernel_rfl) (fun _ _ _ h => h) (Or.inl ⟨by rfl, fun w hSw => by obtain ⟨hS1, hS2, hS3⟩ := hSw; go_simp⟩) (by assumption) ?_
  simp only [List.getElem_toArray, List.getElem_cons_succ, List.getElem_cons_zero, Act.put, List.setIfInBounds_toArray, List.set_cons_zero, List.set_cons_succ]
  refine wpAnyH_take (i := 11) (v := .int .i64 (n : Int)) rfl (by kernel_rfl) (by kernel_rfl) (by kernel_rfl) (fun _ _ _ h => h) (Or.inl ⟨by rfl, fun w hSw => by obtain ⟨hS1, hS2, hS3⟩ := hSw; go_simp⟩) (by assumption) ?_
  simp only [List.getElem_toArray, List.getElem_cons_succ, List.getElem_cons_zero, Act.put, List.setIfInBounds_toArray, List.set_cons_zero, List.set_cons_succ]
  refine wpAnyH_take (i := 12) (v := .int .i64 (nx : Int)) rfl (by kernel_rfl) (by kernel_rfl) (by kernel_rfl) (fun _ _ _ h => h) (Or.inl ⟨by rfl, fun w hSw => by obtain ⟨hS1, hS2, hS3⟩ := hSw; go_simp⟩) (by assumption) ?_
  simp only [List.getElem_toArray, List.getElem_cons_succ, List.getElem_cons_zero, Act.put, List.setIfInBounds_toArray, List.set_cons_zero, List.set_cons_succ]
  refine wpAnyH_take (i := 14) (v := .slice (ua) un uc) rfl (by kernel_rfl) (by kernel_rfl) (by kernel_rfl) (fun _ _ _ h => h) (Or.inl ⟨by rfl, fun w hSw => by obtain ⟨hS1, hS2, hS3⟩ := hSw; go_simp⟩) (by assumption) ?_
  simp only [List.getElem_toArray, List.getElem_cons_succ, List.getElem_cons_zero, Act.put, List.setIfInBounds_toArray, List.set_cons_zero, List.set_cons_succ]
  refine wpAnyH_ready (rs := [13]) (by kernel_rfl) (by simp) (AllReadyH.cons rfl (fun K hK => ?_) AllReadyH.nil)
  refine step_call3J (by rfl) 48 place_enter (.tmp 29) (.tmp 33) (.tmp 34) _ rfl rfl rfl rfl (unhide HPL _) ?_
  rintro e wm ⟨rfl, hwm⟩
  obtain rfl := hwm.symm
  clear hwm
  refine ⟨_, rfl, ?_⟩
  refine hK.out _ _ (⟨(unhide HC2 _ HX0.out.1).cells.1, (unhide HC2 _ HX0.out.1).cells.2.1, (unhide HC2 _ HX0.out.1).cells.2.2.1⟩) (fun hJ1 => ?_)
  clear hK K
  simp only [List.getElem_toArray, List.getElem_cons_succ, List.getElem_cons_zero, Act.put, List.setIfInBounds_toArray, List.set_cons_zero, List.set_cons_succ]
  refine wpAnyH_ready (rs := [15]) (by kernel_rfl) (by simp) (AllReadyH.cons rfl (fun K hK => ?_) AllReadyH.nil)
  refine step_call3J (by rfl) 67 dwrite_enter (.tmp 25) (.tmp 35) (.tmp 36) _ rfl rfl rfl rfl (unhide HWR _ _ _ HX0.out.2.1 HX0.out.2.2) ?_
  rintro e w3 ⟨rfl, hs3, hc3⟩
  have HC3 : Hid (Cj TDk w2 w3) := hide (HX0.out.1.trans hc3)
  have HS3 := hide hs3
  have HJ3 := hide (unhide HC2 _ HC3.out)
  refine ⟨_, rfl, ?_⟩
  refine hK.out _ _ (⟨(unhide HC2 _ HC3.out).cells.1, (unhide HC2 _ HC3.out).cells.2.1, (unhide HC2 _ HC3.out).cells.2.2.1⟩) (fun hJ2 => ?_)
  clear hK K
  simp only [List.getElem_toArray, List.getElem_cons_succ, List.getElem_cons_zero, Act.put, List.setIfInBounds_toArray, List.set_cons_zero, List.set_cons_succ]
  clear hs3 hc3
  refine wpAnyH_done (by kernel_rfl) ?_ _
  obtain ⟨e0, e1, e2, e3, e4⟩ := HJ3.out.cells
  have hf4 := Arr.frozen HJ3.out 4
  have HFIN : Hid (Sn w0 (w3.setCell ⟨pj, 4, none⟩ (.int .i64 ((nx + 1 : Nat) : Int))) p (D.write i EL) ∧ Jn (w3.setCell ⟨pj, 4, none⟩ (.int .i64 ((nx + 1 : Nat) : Int))) pj p fr n st (nx + 1) ∧ Cj TJn w (w3.setCell ⟨pj, 4, none⟩ (.int .i64 ((nx + 1 : Nat) : Int)))) := hide ⟨HS3.out.set (grown_set _ _ _ _) HJ3.out tdk_jn hlo, Arr.set HJ3.out 4 _, (unhide HCJ _ HC3.out).trans (Cj.of_grown (grown_set _ _ _ _) HJ3.out (Or.inr rfl))⟩
  clear HJ3 HS3 HC3
  go_wp2
  go_ret
  exact ⟨rfl, HFIN.out⟩
end Go.Proofs.YthhjlopgpmaokabDoor
