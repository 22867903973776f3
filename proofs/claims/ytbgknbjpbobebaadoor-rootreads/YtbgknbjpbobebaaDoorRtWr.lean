/- What RootWrites answers. -/
import Derived.Test.YtbgknbjpbobebaaDoorRtDc
import Derived.Test.YtbgknbjpbobebaaDoorKQ
import Derived.Test.YtbgknbjpbobebaaDoorKS
namespace Go.Proofs.YtbgknbjpbobebaaDoor
open Go.RowKit Go.Maps

theorem acts_equal {a b c : Int} (W : World) : (Op.equalIn 10000 42 (.agg #[.int .i64 a, .int .i64 b, .int .i64 c]) (.agg #[.int .i64 a, .int .i64 b, .int .i64 c])).run Tryd.prog W = .ok true W := by
  have ui := Tryd.underlying3
  rw [run_equalIn_struct W 9999 42 _ _ (by kernel_rfl) (by kernel_rfl)]
  have q1 : ∀ (a : Int), (Op.equalIn 9999 3 (.int .i64 a) (.int .i64 a)).run Tryd.prog W = .ok true W := fun a => by have := run_equalIn_int W 9998 3 .i64 .i64 a a ui; rw [this]; simp
  have hc : ∀ {i : Nat} {v : Value}, [Value.int .i64 a, .int .i64 b, .int .i64 c][i]? = some v → (part 3 #[.int .i64 a, .int .i64 b, .int .i64 c] i).run Tryd.prog W = .ok v W := fun {i v} h => spart_cell (cs := [Value.int .i64 a, .int .i64 b, .int .i64 c]) ui rfl h W
  simp only [Program.fieldsOf, Tryd.underlying42]
  rw [show true = (true && (true && (true && true))) from rfl]
  refine eqF_step (by decide) (hc (i := 0) rfl) (hc (i := 0) rfl) (q1 _) ?_
  refine eqF_step (by decide) (hc (i := 1) rfl) (hc (i := 1) rfl) (q1 _) ?_
  refine eqF_step (by decide) (hc (i := 2) rfl) (hc (i := 2) rfl) (q1 _) ?_
  simp [Op.eqFields]
theorem acts_neqS (a b c : Int) (W : World) : (binOp .neq 42 (.agg #[.int .i64 a, .int .i64 b, .int .i64 c]) (.agg #[.int .i64 a, .int .i64 b, .int .i64 c])).run Tryd.prog W = .ok (.bool false) W := by
  rw [run_neq_struct, acts_equal]; simp
theorem acts_guardS (op : BinOp) (x y : Operand) (xs ys : Array Value) (w : World) : (eqGuard op 42 x y (.agg xs) (.agg ys)).run Tryd.prog w = .ok () w := run_eqGuard_agg w op 42 x y xs ys (by kernel_rfl)
theorem bldA0 (W : World) : (Instr.build 42 #[]).run Tryd.prog W = .ok (.agg #[.int .i64 0, .int .i64 0, .int .i64 0]) W := by kernel_rfl
theorem infoRD : (Tryd.prog.info? 44).map (·.size) = some 6 := by kernel_rfl
theorem infoAc : (Tryd.prog.info? 42).map (·.size) = some 3 := by kernel_rfl
def z6D : List Value := [.int .i64 0, .slice none 0 0, .slice none 0 0, .int .i64 0, .int .i64 0, .int .i64 0]
theorem infoD0 : (Tryd.prog.info? 44).map (fun i => (i.zero, i.size, i.bytes)) = some (some (.agg z6D.toArray), 6, 80) := by kernel_rfl
theorem rdC_oneS (n : Int) (a1 : Option Addr) (n1 c1 : Nat) (a2 : Option Addr) (n2 c2 : Nat) (rd wt fl : Int) : ∀ u ∈ rdC n a1 n1 c1 a2 n2 c2 rd wt fl, u.oneCell' = true := by
  intro u hu
  simp only [rdC, List.mem_cons, List.not_mem_nil, or_false] at hu
  rcases hu with rfl | rfl | rfl | rfl | rfl | rfl <;> rfl
theorem IsAts.cj {T : TypeId → Prop} {w w' : World} {v : Value} {l : Ats} (h : IsAts w v l) (hc : Cj T w w') (h1 : ¬ T 94) (h2 : ¬ T 5) : IsAts w' v l := by
  obtain ⟨es, q1, q2, q3⟩ := h.rd
  exact ⟨es, owns_cj q1 hc h1, q2, fun j hj => ⟨(q3 j hj).1, (q3 j hj).2.cj hc h2⟩⟩
/-- The document's disk beside it, the slot and its bytes. -/
structure Wd (w W : World) (g9 : Nat) (ub : Value) (s : SL) (R : RD) : Prop where
  doc : ∃ a1 n1 c1 a2 n2 c2, Arr W g9 44 (rdC R.n a1 n1 c1 a2 n2 c2 R.rd R.wt R.fl) ∧ IsAts W (.slice a1 n1 c1) R.la ∧ IsAts W (.slice a2 n2 c2) R.wr
  sl : Arr W w.heap.size 27 (slV s)
  bs : Own8 W w.heap.size ub (slL s)
  lo : w.heap.size ≤ g9
theorem Wd.below {w W W' : World} {g9 : Nat} {ub : Value} {s : SL} {R : RD} (h : Wd w W g9 ub s R) (hb : Below W.heap.size W W') : Wd w W' g9 ub s R := by
  obtain ⟨a1, n1, c1, a2, n2, c2, q1, q2, q3⟩ := h.doc
  exact ⟨⟨a1, n1, c1, a2, n2, c2, q1.below hb, q2.below hb, q3.below hb⟩, h.sl.below hb, h.bs.below hb, h.lo⟩
theorem Wd.cj {w W W' : World} {g9 : Nat} {ub : Value} {s : SL} {R : RD} (h : Wd w W g9 ub s R) (hc : Cj TWr W W') : Wd w W' g9 ub s R := by
  have t1 : ¬ TWr 44 := by unfold TWr TDk; decide
  have t2 : ¬ TWr 94 := by unfold TWr TDk; decide
  have t3 : ¬ TWr 5 := by unfold TWr TDk; decide
  obtain ⟨a1, n1, c1, a2, n2, c2, q1, q2, q3⟩ := h.doc
  exact ⟨⟨a1, n1, c1, a2, n2, c2, q1.cj hc t1, q2.cj hc t2 t3, q3.cj hc t2 t3⟩, h.sl.cj hc twr_slot, h.bs.cj hc t3, h.lo⟩
/-- The document's disk is written. -/
theorem Wd.put {w W W' : World} {g9 p pw : Nat} {ub : Value} {s : SL} {R R' : RD} {D : AD} {d : Int} (h : Wd w W g9 ub s R) (hr : Rw w W p D pw s d) (hg : W.grownBy W' (some g9)) {a1 a2 : Option Addr} {n1 c1 n2 c2 : Nat} (hA : Arr W' g9 44 (rdC R'.n a1 n1 c1 a2 n2 c2 R'.rd R'.wt R'.fl)) (h1 : IsAts W (.slice a1 n1 c1) R'.la) (h2 : IsAts W (.slice a2 n2 c2) R'.wr) : Wd w W' g9 ub s R' ∧ Rw w W' p D pw s d := by
  obtain ⟨_, _, _, _, _, _, q1, _, _⟩ := h.doc
  have hc : Cj (fun t => t = 44) W W' := Cj.of_grown hg q1 rfl
  have td : ¬ TDk 44 := by unfold TDk; decide
  exact ⟨⟨⟨a1, n1, c1, a2, n2, c2, hA, h1.cj hc (by decide) (by decide), h2.cj hc (by decide) (by decide)⟩, h.sl.cj hc (by decide), h.bs.cj hc (by decide), h.lo⟩, ⟨hr.sn.set hg q1 td h.lo, hr.wr.cj hc (by decide), hr.lo⟩⟩
/-- Both disks behind so many Steps. -/
def DQ (n i : Nat) (b : List Int) : Nat → AD
  | 0 => zeroD n
  | 1 => (zeroD n).write i b
  | _ => ((zeroD n).write i b).flush
def RQ (n i : Nat) (b : List Int) : Nat → RD
  | 0 => ⟨n, [], [], 0, 0, 0⟩
  | 1 => RD.write ⟨n, [], [], 0, 0, 0⟩ i b
  | _ => (RD.write ⟨n, [], [], 0, 0, 0⟩ i b).flush
theorem rel_q {n i : Nat} {b : List Int} (hi : i < n) (hb : IsSec b) : ∀ q, Rel (DQ n i b q) (RQ n i b q) := by
  have h0 : Rel (zeroD n) ⟨n, [], [], 0, 0, 0⟩ := ⟨by simp [zeroD], fun j hj => by simp [zeroD] at hj ⊢; rw [lastOf_nil]; simp [hj], fun _ _ => rfl, fun a ha => by simp at ha, fun a ha => by simp at ha, rfl, rfl, rfl⟩
  have h1 := h0.write (i := i) (by simpa [zeroD] using hi) hb
  have h2 := h1.flush (fun j => by simp only [AD.write, updF, zeroD]; split <;> simp)
  intro q
  match q with
  | 0 => exact h0
  | 1 => exact h1
  | _ + 2 => exact h2
theorem wpList_bldOnA {ops : Array Oper} {rest : List Oper} {o : Oper} {a : Act} {Q : Exit → Act → World → Prop} {w : World} (hw : Region.wanted o (yielded ops a.tmps) = true) (t : TypeId) (ho : o.op = .build t #[]) {u : Value} (hrun : ∀ W, (Instr.build t #[]).run Tryd.prog W = .ok u W)
    (hk : wpList Tryd.prog ops Q rest (a.put o.dst u) w) : wpList Tryd.prog ops Q (o :: rest) a w := by
  refine wpList_on hw fun K hK => ?_
  unfold Oper.wp execOp
  simp only [ho, List.map_toArray, List.map_nil, Sem.run_bind, hrun w, Result.andThen_ok, Sem.run_pure]
  exact hK _ _ hk
theorem acts_enterS (v : Value) (W : World) : (callFunc 19 #[v]).run Tryd.prog W = .ok (.enter 19 #[v]) W := by kernel_rfl
theorem image_enterS (v : Value) (W : World) : (callFunc 25 #[v]).run Tryd.prog W = .ok (.enter 25 #[v]) W := by kernel_rfl
theorem rimage_enterS (v : Value) (W : World) : (callFunc 26 #[v]).run Tryd.prog W = .ok (.enter 26 #[v]) W := by kernel_rfl
theorem same_enterS (v u : Value) (W : World) : (callFunc 24 #[v, u]).run Tryd.prog W = .ok (.enter 24 #[v, u]) W := by kernel_rfl
theorem sn_acts {w0 W : World} {p : Nat} {D : AD} (h : Sn w0 W p D) : Calls Tryd.prog 19 #[.pointer (some ⟨p, 0, none⟩)] W fun e w' => e = .returned (.agg #[.int .i64 D.rd, .int .i64 D.wt, .int .i64 D.fl]) ∧ Below W.heap.size W w' := by
  obtain ⟨gl, gm, V, h1, h2, h3⟩ := h
  exact acts_calls h1.cells.2.2.1 h1.cells.2.2.2.1 h1.cells.2.2.2.2
theorem sn_image {w0 W : World} {p : Nat} {D : AD} (h : Sn w0 W p D) : Calls Tryd.prog 25 #[.pointer (some ⟨p, 0, none⟩)] W fun e w' => ∃ v, e = .returned v ∧ IsBB w' v D.la ∧ Below W.heap.size W w' := by
  obtain ⟨gl, gm, V, h1, h2, h3⟩ := h
  exact (image_calls h1).mono fun e w' ⟨v, q1, q2, q3⟩ => ⟨v, q1, q2.isBB h1.ok.hi, q3⟩
set_option maxRecDepth 100000 in
set_option maxHeartbeats 4000000 in
theorem rootWrites_walk {w : World} {s : SL} (x x2 : Int) (hs : s.Ok) (ht : Tab w) : Calls Tryd.prog 5 #[.int .i64 x, .agg (slV s).toArray, .int .i64 x2] w fun e w' => e = .returned (.bool true) ∧ Below w.heap.size w w' := by
  have hinf := infoSof hs
  by_cases hx : x < 2 ∨ 65536 < x
  · have HN : Hid (∀ W, Calls Tryd.prog 12 #[.int .i64 x] W fun e w' => e = .returned (.tuple #[.pointer none, .int .i64 30]) ∧ w' = W) := hide (fun W => new_bad hx)
    have HR : Hid (∀ W : World, Calls Tryd.prog 13 #[.int .i64 x] W fun e w' => Below W.heap.size W w' ∧ e = .returned (.tuple #[.agg z6D.toArray, .int .i64 30])) := hide (fun W => by have := rnew_calls (w := W) (n := x); rw [if_pos hx, if_pos hx] at this; exact this)
    have hinf6 : (Tryd.prog.info? 44).map (·.size) = some z6D.length := infoRD
    have hone6 : ∀ u ∈ z6D, u.oneCell' = true := rdC_oneS 0 none 0 0 none 0 0 0 0 0
    generalize slV s = cs1 at *
    clear hs ht hx
    go_enter Tryd.func5, Tryd.ntmps5
    go_wp2_with (first
      | (refine wpList_boxJ rfl 27 (.tmp 1) rfl rfl ?_; intro w1 hA1 hb1 hs1
         have HB1 := hide hb1
         clear hA1 hb1 hs1)
      | fail)
    refine (unhide HN _).mono ?_
    rintro e wx ⟨rfl, hwx⟩
    obtain rfl := hwx.symm
    clear hwx
    go_wp2_with fail
    refine (unhide HR _).mono ?_
    rintro e w2 ⟨hb2, rfl⟩
    have HX : Hid (∀ w3, (w2.alloc (.cells z6D.toArray 44)).grownBy w3 (some w2.heap.size) → Below w.heap.size w w3) := hide (fun w3 hg3 => by
      have hba := jalloc_below w2 (.cells z6D.toArray 44)
      exact below_then (below_then HB1.out hb2) (jbelow_grown hba hg3 hba.size (Nat.le_refl _)))
    clear hb2
    go_wp2_with (first
      | (refine wpList_allocJ rfl 44 rfl infoD0 ?_)
      | (refine wpList_storeJ rfl (.tmp 9) (.tmp 28) 44 rfl rfl (ds := z6D) rfl (Arr.new w2 z6D 44) hinf6 rfl hone6 ?_; intro w3 hA3 hg3
         have HB3 := hide (unhide HX w3 hg3)
         clear hA3 hg3 HX)
      | fail)
    go_ret
    exact ⟨rfl, HB3.out⟩
  · obtain ⟨n, rfl⟩ : ∃ n : Nat, x = (n : Int) := ⟨x.toNat, by omega⟩
    have hn2 : 2 ≤ n := by omega
    have hn6 : n ≤ 65536 := by omega
    have HN : Hid (∀ W, Below w.heap.size w W → Calls Tryd.prog 12 #[.int .i64 (n : Int)] W fun e w' => ∃ p, e = .returned (.tuple #[.pointer (some ⟨p, 0, none⟩), .int .i64 0]) ∧ Sn w w' p (zeroD n) ∧ Below W.heap.size W w') := hide (fun W hW => sn_new hW hn2 hn6)
    have HR : Hid (∀ W : World, Calls Tryd.prog 13 #[.int .i64 (n : Int)] W fun e w' => Below W.heap.size W w' ∧ e = .returned (.tuple #[.agg (rdC (n : Int) none 0 0 none 0 0 0 0 0).toArray, .int .i64 0])) := hide (fun W => by have := rnew_calls (w := W) (n := (n : Int)); rw [if_neg hx, if_neg hx] at this; exact this)
    have hinf6 : (Tryd.prog.info? 44).map (·.size) = some (rdC (n : Int) none 0 0 none 0 0 0 0 0).length := infoRD
    have hone6 := rdC_oneS (n : Int) none 0 0 none 0 0 0 0 0
    have hlen6 : z6D.length = (rdC (n : Int) none 0 0 none 0 0 0 0 0).length := rfl
    by_cases h40 : 4096 < n
    · have hI : (4096 : Int) < (n : Int) := by omega
      generalize rdC (n : Int) none 0 0 none 0 0 0 0 0 = rc at *
      generalize slV s = cs1 at *
      clear hs ht hx
      go_enter Tryd.func5, Tryd.ntmps5
      go_wp2_with (first
        | (refine wpList_boxJ rfl 27 (.tmp 1) rfl rfl ?_; intro w1 hA1 hb1 hs1
           have HA1 := hide hA1
           have HB1 := hide hb1
           clear hA1 hb1 hs1)
        | fail)
      refine (unhide HN _ HB1.out).mono ?_
      rintro e w2 ⟨p, rfl, hS2, hb2⟩
      have HA2 := hide (HA1.out.below hb2)
      have HS2 := hide hS2
      clear hS2 hb2 HA1 HN
      go_wp2_with fail
      refine (unhide HR _).mono ?_
      rintro e w3 ⟨hb3, rfl⟩
      have HX : Hid (∀ w4, Arr w4 w3.heap.size 44 rc → (w3.alloc (.cells z6D.toArray 44)).grownBy w4 (some w3.heap.size) → Sn w w4 p _ ∧ Arr w4 w.heap.size 27 cs1) := hide (fun w4 hA4 hg4 => by
        have hba := jalloc_below w3 (.cells z6D.toArray 44)
        have hb4 := jbelow_grown hba hg4 hba.size (Nat.le_refl _)
        exact ⟨(HS2.out.below hb3).below hb4, (HA2.out.below hb3).below hb4⟩)
      have HLO9 : Hid (w.heap.size ≤ w3.heap.size) := hide (Nat.le_trans HS2.out.be.size hb3.size)
      clear hb3
      go_wp2_with (first
        | (refine wpList_allocJ rfl 44 rfl infoD0 ?_)
        | (refine wpList_storeJ rfl (.tmp 9) (.tmp 28) 44 rfl rfl (ds := rc) rfl (Arr.new w3 z6D 44) hinf6 hlen6 hone6 ?_; intro w4 hA4 hg4
           obtain ⟨hS4, hA44⟩ := unhide HX w4 hA4 hg4
           have hrg4 := hA44.rangeJ
           have HS4 := hide hS4
           have HA4 := hide hA44
           have HD4 := hide hA4
           clear hA4 hg4 HX hS4 hA44 HS2 HA2)
        | (refine wpList_loadJ rfl 27 (.tmp 4) rfl _ 0 rfl cs1 _ hrg4 Tryd.underlying27 rfl hinf ?_)
        | fail)
      go_ret
      exact ⟨rfl, HS4.out.be⟩
    · have hI : decide ((4096 : Int) < (n : Int)) = false := by simp; omega
      have HAC : Hid (∀ W p D, Sn w W p D → Calls Tryd.prog 19 #[.pointer (some ⟨p, 0, none⟩)] W fun e w' => e = .returned (.agg #[.int .i64 D.rd, .int .i64 D.wt, .int .i64 D.fl]) ∧ Below W.heap.size W w') := hide (fun W p D h => sn_acts h)
      have HA0 : Hid (∀ W p, Sn w W p (zeroD n) → Calls Tryd.prog 19 #[.pointer (some ⟨p, 0, none⟩)] W fun e w' => e = .returned (.agg #[.int .i64 0, .int .i64 0, .int .i64 0]) ∧ Below W.heap.size W w') := hide (fun W p h => sn_acts h)
      have hane := fun a b c W => acts_neqS a b c W
      have hagd := fun op xx y xs ys W => acts_guardS op xx y xs ys W
      have HNN : Hid (∀ W : World, Calls Tryd.prog 22 #[.pointer none, .agg (slV s).toArray] W fun e w' => e = .returned (.tuple #[.pointer none, .int .i64 1]) ∧ Below W.heap.size W w') := hide (fun W => newW_nil s)
      have HCS : Hid (∀ W, Arr W w.heap.size 27 (slV s) → W.cell? ⟨w.heap.size, 0, none⟩ = some (.int .i64 s.sc) ∧ W.cell? ⟨w.heap.size, 2, none⟩ = some (.int .i64 s.t) ∧ W.rangeAt w.heap.size 0 (slV s)) := hide (fun W hA => ⟨(hA.cell 0).trans (slV_at s).1, (hA.cell 2).trans (slV_at s).2.2.1, hA.rangeJ⟩)
      have HNB : Hid (¬ (s.May ∧ s.sc = (n : Int)) → ∀ W p, Sn w W p (zeroD n) → Calls Tryd.prog 22 #[.pointer (some ⟨p, 0, none⟩), .agg (slV s).toArray] W fun e w' => e = .returned (.tuple #[.pointer none, .int .i64 180]) ∧ Below W.heap.size W w') := hide (fun hn W p hS => (newW_calls hS hs).mono fun e w' ⟨h1, h2⟩ => by
        rcases h1 with ⟨_, he⟩ | ⟨q1, q2, _⟩
        · exact ⟨he, h2⟩
        · exact absurd ⟨q1, by rw [q2]; simp [zeroD]⟩ hn)
      by_cases hm : s.May
      case neg =>
        have HNW := hide (unhide HNB (fun h => hm h.1))
        have HEN : Hid (∀ W : World, Calls Tryd.prog 10 #[.agg (slV s).toArray] W fun e w' => e = .returned (.tuple #[.slice none 0 0, .int .i64 180]) ∧ Below W.heap.size W w') := hide (fun W => renc_no hs hm)
        generalize rdC (n : Int) none 0 0 none 0 0 0 0 0 = rc at *
        generalize hcs : slV s = cs1 at *
        generalize s.sc = xs0 at *
        generalize s.t = xt at *
        generalize zeroD n = D0 at *
        clear hs ht hx hm hcs HNB
        go_enter Tryd.func5, Tryd.ntmps5
        go_wp2_with (first
          | (refine wpList_boxJ rfl 27 (.tmp 1) rfl rfl ?_; intro w1 hA1 hb1 hs1
             have HA1 := hide hA1
             have HB1 := hide hb1
             clear hA1 hb1 hs1)
          | fail)
        refine (unhide HN _ HB1.out).mono ?_
        rintro e w2 ⟨p, rfl, hS2, hb2⟩
        have HA2 := hide (HA1.out.below hb2)
        have HS2 := hide hS2
        clear hS2 hb2 HA1 HN
        go_wp2_with fail
        refine (unhide HR _).mono ?_
        rintro e w3 ⟨hb3, rfl⟩
        have HX : Hid (∀ w4, Arr w4 w3.heap.size 44 rc → (w3.alloc (.cells z6D.toArray 44)).grownBy w4 (some w3.heap.size) → Sn w w4 p _ ∧ Arr w4 w.heap.size 27 cs1) := hide (fun w4 hA4 hg4 => by
          have hba := jalloc_below w3 (.cells z6D.toArray 44)
          have hb4 := jbelow_grown hba hg4 hba.size (Nat.le_refl _)
          exact ⟨(HS2.out.below hb3).below hb4, (HA2.out.below hb3).below hb4⟩)
        have HLO9 : Hid (w.heap.size ≤ w3.heap.size) := hide (Nat.le_trans HS2.out.be.size hb3.size)
        clear hb3
        go_wp2_with (first
          | (refine wpList_allocJ rfl 44 rfl infoD0 ?_)
          | (refine wpList_storeJ rfl (.tmp 9) (.tmp 28) 44 rfl rfl (ds := rc) rfl (Arr.new w3 z6D 44) hinf6 hlen6 hone6 ?_; intro w4 hA4 hg4
             obtain ⟨hS4, hA44⟩ := unhide HX w4 hA4 hg4
             have hrg4 := hA44.rangeJ
             have HS4 := hide hS4
             have HA4 := hide hA44
             have HD4 := hide hA4
             clear hA4 hg4 HX hS4 hA44 HS2 HA2)
          | (refine wpList_loadJ rfl 27 (.tmp 4) rfl _ 0 rfl cs1 _ hrg4 Tryd.underlying27 rfl hinf ?_)
          | fail)
        refine (unhide HNW _ _ HS4.out).mono ?_
        rintro e w5 ⟨rfl, hb5⟩
        have HS5 := hide (HS4.out.below hb5)
        have hA5 := HA4.out.below hb5
        have hrg5 := hA5.rangeJ
        have HA5 := hide hA5
        clear hb5 HNW HS4 HA4 hA5 hrg4 HD4
        go_wp2_with (first
          | (refine wpList_loadJ rfl 27 (.tmp 4) rfl _ 0 rfl cs1 _ hrg5 Tryd.underlying27 rfl hinf ?_)
          | fail)
        refine (unhide HNN _).mono ?_
        rintro e w6 ⟨rfl, hb6⟩
        have HS6 := hide (HS5.out.below hb6)
        have hA6 := HA5.out.below hb6
        have hrg6 := hA6.rangeJ
        have HA6 := hide hA6
        clear hb6 HNN HS5 HA5 hA6 hrg5
        go_wp2_with (first
          | (refine wpList_loadJ rfl 27 (.tmp 4) rfl _ 0 rfl cs1 _ hrg6 Tryd.underlying27 rfl hinf ?_)
          | fail)
        refine (unhide HEN _).mono ?_
        rintro e w7 ⟨rfl, hb7⟩
        have HS7 := hide (HS6.out.below hb7)
        clear hb7 HEN hrg6 HA6
        go_wp2_with fail
        refine (unhide HA0 _ _ HS7.out).mono ?_
        rintro e w8 ⟨rfl, hb8⟩
        have HB8 := hide (below_then HS7.out.be hb8)
        clear hb8
        go_wp2_with (first
          | (refine wpList_bldOnA (by rfl) 42 rfl bldA0 ?_)
          | fail)
        go_ret
        exact ⟨rfl, HB8.out⟩
      have HEN : Hid (∀ W : World, Calls Tryd.prog 10 #[.agg (slV s).toArray] W fun e w' => ∃ u, e = .returned (.tuple #[u, .int .i64 0]) ∧ Own8 w' W.heap.size u (slL s) ∧ Below W.heap.size W w') := hide (fun W => renc_good hs hm)
      by_cases hsc : s.sc = (n : Int)
      case neg =>
        have HNW := hide (unhide HNB (fun h => hsc h.2))
        have hne : (s.sc != (n : Int)) = true := by simpa using hsc
        generalize rdC (n : Int) none 0 0 none 0 0 0 0 0 = rc at *
        generalize hcs : slV s = cs1 at *
        generalize s.sc = xs0 at *
        generalize s.t = xt at *
        generalize zeroD n = D0 at *
        clear hs ht hx hm hcs HNB hsc
        go_enter Tryd.func5, Tryd.ntmps5
        go_wp2_with (first
          | (refine wpList_boxJ rfl 27 (.tmp 1) rfl rfl ?_; intro w1 hA1 hb1 hs1
             have HA1 := hide hA1
             have HB1 := hide hb1
             clear hA1 hb1 hs1)
          | fail)
        refine (unhide HN _ HB1.out).mono ?_
        rintro e w2 ⟨p, rfl, hS2, hb2⟩
        have HA2 := hide (HA1.out.below hb2)
        have HS2 := hide hS2
        clear hS2 hb2 HA1 HN
        go_wp2_with fail
        refine (unhide HR _).mono ?_
        rintro e w3 ⟨hb3, rfl⟩
        have HX : Hid (∀ w4, Arr w4 w3.heap.size 44 rc → (w3.alloc (.cells z6D.toArray 44)).grownBy w4 (some w3.heap.size) → Sn w w4 p _ ∧ Arr w4 w.heap.size 27 cs1) := hide (fun w4 hA4 hg4 => by
          have hba := jalloc_below w3 (.cells z6D.toArray 44)
          have hb4 := jbelow_grown hba hg4 hba.size (Nat.le_refl _)
          exact ⟨(HS2.out.below hb3).below hb4, (HA2.out.below hb3).below hb4⟩)
        have HLO9 : Hid (w.heap.size ≤ w3.heap.size) := hide (Nat.le_trans HS2.out.be.size hb3.size)
        clear hb3
        go_wp2_with (first
          | (refine wpList_allocJ rfl 44 rfl infoD0 ?_)
          | (refine wpList_storeJ rfl (.tmp 9) (.tmp 28) 44 rfl rfl (ds := rc) rfl (Arr.new w3 z6D 44) hinf6 hlen6 hone6 ?_; intro w4 hA4 hg4
             obtain ⟨hS4, hA44⟩ := unhide HX w4 hA4 hg4
             have hrg4 := hA44.rangeJ
             have HS4 := hide hS4
             have HA4 := hide hA44
             have HD4 := hide hA4
             clear hA4 hg4 HX hS4 hA44 HS2 HA2)
          | (refine wpList_loadJ rfl 27 (.tmp 4) rfl _ 0 rfl cs1 _ hrg4 Tryd.underlying27 rfl hinf ?_)
          | fail)
        refine (unhide HNW _ _ HS4.out).mono ?_
        rintro e w5 ⟨rfl, hb5⟩
        have HS5 := hide (HS4.out.below hb5)
        have hA5 := HA4.out.below hb5
        have hrg5 := hA5.rangeJ
        have HA5 := hide hA5
        clear hb5 HNW HS4 HA4 hA5 hrg4 HD4
        go_wp2_with (first
          | (refine wpList_loadJ rfl 27 (.tmp 4) rfl _ 0 rfl cs1 _ hrg5 Tryd.underlying27 rfl hinf ?_)
          | fail)
        refine (unhide HNN _).mono ?_
        rintro e w6 ⟨rfl, hb6⟩
        have HS6 := hide (HS5.out.below hb6)
        have hA6 := HA5.out.below hb6
        have hrg6 := hA6.rangeJ
        have HA6 := hide hA6
        clear hb6 HNN HS5 HA5 hA6 hrg5
        go_wp2_with (first
          | (refine wpList_loadJ rfl 27 (.tmp 4) rfl _ 0 rfl cs1 _ hrg6 Tryd.underlying27 rfl hinf ?_)
          | fail)
        refine (unhide HEN _).mono ?_
        rintro e w7 ⟨u7, rfl, ho7, hb7⟩
        obtain ⟨ua, un, uc, rfl⟩ := ho7.shape
        have HS7 := hide (HS6.out.below hb7)
        have HA7 := hide (HA6.out.below hb7)
        clear ho7 hb7 HEN hrg6 HA6
        go_wp2_with fail
        refine (unhide HA0 _ _ HS7.out).mono ?_
        rintro e w8 ⟨rfl, hb8⟩
        have HB8 := hide (below_then HS7.out.be hb8)
        obtain ⟨k0, _, _⟩ := unhide HCS _ (HA7.out.below hb8)
        clear hb8
        go_wp2_with (first
          | (refine wpList_bldOnA (by rfl) 42 rfl bldA0 ?_)
          | fail)
        go_ret
        exact ⟨rfl, HB8.out⟩
      obtain ⟨i, hi⟩ : ∃ i : Nat, s.t % 2 = (i : Int) := ⟨(s.t % 2).toNat, by omega⟩
      have hi2 : i < 2 := by omega
      have hsec : IsSec (slL s) := ⟨slL_len hs, slL_by hs⟩
      have hrel := rel_q (n := n) (i := i) (b := slL s) (by omega) hsec
      have hmodt : s.t.tmod 2 = (i : Int) := by rw [Int.tmod_eq_emod_of_nonneg hm.t.1, hi]
      have hmodt2 := hi
      have HNW : Hid (∀ W p, Sn w W p (zeroD n) → Calls Tryd.prog 22 #[.pointer (some ⟨p, 0, none⟩), .agg (slV s).toArray] W fun e w' => ∃ pw, e = .returned (.tuple #[.pointer (some ⟨pw, 0, none⟩), .int .i64 0]) ∧ Rw w w' p (DQ n i (slL s) 0) pw s 0 ∧ Below W.heap.size W w') := hide (fun W p hS => (newW_calls hS hs).mono fun e w' ⟨h1, h2⟩ => by
        rcases h1 with ⟨hn, _⟩ | ⟨_, _, pw, rfl, hlo, hA⟩
        · exact absurd ⟨hm, by rw [hsc]; simp [zeroD]⟩ hn
        · exact ⟨pw, rfl, ⟨hS.below h2, hA, Nat.le_trans hS.be.size hlo⟩, h2⟩)
      have HT0 : Hid (∀ W p pw, Rw w W p (DQ n i (slL s) 0) pw s 0 → Calls Tryd.prog 23 #[.pointer (some ⟨pw, 0, none⟩)] W fun e w' => e = .returned (.tuple #[.bool false, .int .i64 0]) ∧ Rw w w' p (DQ n i (slL s) 1) pw s 1 ∧ Cj TWr W w') := hide (fun W p pw h => wstep_zero (D := zeroD n) hs hm ht h hi (by simp [zeroD]; omega) (Int.le_refl 0) (by show (0 : Int) ≤ _; decide) (by simp [zeroD]))
      have HT1 : Hid (∀ W p pw, Rw w W p (DQ n i (slL s) 1) pw s 1 → Calls Tryd.prog 23 #[.pointer (some ⟨pw, 0, none⟩)] W fun e w' => e = .returned (.tuple #[.bool true, .int .i64 0]) ∧ Rw w w' p (DQ n i (slL s) 2) pw s 2 ∧ Cj TWr W w') := hide (fun W p pw h => wstep_one (D := (zeroD n).write i (slL s)) hs h (fun j => by simp only [AD.write, updF, zeroD]; split <;> simp) (Int.le_refl 0) (by show (0 : Int) ≤ _; decide))
      have HT2 : Hid (∀ W p pw, Rw w W p (DQ n i (slL s) 2) pw s 2 → Calls Tryd.prog 23 #[.pointer (some ⟨pw, 0, none⟩)] W fun e w' => e = .returned (.tuple #[.bool true, .int .i64 0]) ∧ w' = W) := hide (fun W p pw h => wstep_two hs h)
      have HIM : Hid (∀ W p D, Sn w W p D → Calls Tryd.prog 25 #[.pointer (some ⟨p, 0, none⟩)] W fun e w' => ∃ v, e = .returned v ∧ IsBB w' v D.la ∧ Below W.heap.size W w') := hide (fun W p D h => sn_image h)
      have HD0 : Hid (∀ W g9 ub, Arr W g9 44 (rdC (n : Int) none 0 0 none 0 0 0 0 0) → Arr W w.heap.size 27 (slV s) → Own8 W w.heap.size ub (slL s) → w.heap.size ≤ g9 → Wd w W g9 ub s (RQ n i (slL s) 0)) := hide (fun W g9 ub h1 h2 h3 h4 => ⟨⟨none, 0, 0, none, 0, 0, h1, IsAts.nil W, IsAts.nil W⟩, h2, h3, h4⟩)
      have HREL := hide hrel
      have HWRT : Hid (∀ (W : World) a1 n1 c1 a2 n2 c2 ua uc, IsAts W (.slice a2 n2 c2) (RQ n i (slL s) 0).wr → IsB W (.slice ua 512 uc) (slL s) → Calls Tryd.prog 16 #[.agg (rdC ((RQ n i (slL s) 0).n : Int) a1 n1 c1 a2 n2 c2 (RQ n i (slL s) 0).rd (RQ n i (slL s) 0).wt (RQ n i (slL s) 0).fl).toArray, .int .i64 (i : Int), .slice ua 512 uc] W fun e w' => ∃ a3 n3 c3, e = .returned (.tuple #[.agg (rdC ((RQ n i (slL s) 1).n : Int) a1 n1 c1 a3 n3 c3 (RQ n i (slL s) 1).rd (RQ n i (slL s) 1).wt (RQ n i (slL s) 1).fl).toArray, .int .i64 0]) ∧ IsAts w' (.slice a3 n3 c3) (RQ n i (slL s) 1).wr ∧ Below W.heap.size W w') := hide (fun W a1 n1 c1 a2 n2 c2 ua uc h1 h2 => rwrite_good h1 h2 (by show (i : Int) < (n : Int); omega) (by show 0 ≤ _; decide) (Int.le_refl 0) (by show (0 : Int) ≤ _; decide))
      have HFLT : Hid (∀ (W : World) a1 n1 c1 a2 n2 c2, IsAts W (.slice a1 n1 c1) (RQ n i (slL s) 1).la → IsAts W (.slice a2 n2 c2) (RQ n i (slL s) 1).wr → Calls Tryd.prog 18 #[.agg (rdC ((RQ n i (slL s) 1).n : Int) a1 n1 c1 a2 n2 c2 (RQ n i (slL s) 1).rd (RQ n i (slL s) 1).wt (RQ n i (slL s) 1).fl).toArray] W fun e w' => ∃ a3 n3 c3, e = .returned (.agg (rdC ((RQ n i (slL s) 2).n : Int) a3 n3 c3 none 0 0 (RQ n i (slL s) 2).rd (RQ n i (slL s) 2).wt (RQ n i (slL s) 2).fl).toArray) ∧ IsAts w' (.slice a3 n3 c3) (RQ n i (slL s) 2).la ∧ Below W.heap.size W w') := hide (fun W a1 n1 c1 a2 n2 c2 h1 h2 => rflush_calls h1 h2 (by show 0 + 1 ≤ _; decide) (Int.le_refl 0) (by show (0 : Int) ≤ _; decide))
      have HLA1 : Hid ((RQ n i (slL s) 1).la = (RQ n i (slL s) 0).la ∧ (RQ n i (slL s) 2).wr = []) := hide ⟨rfl, rfl⟩
      have hinfD : ∀ (m : Int) a1 n1 c1 a2 n2 c2 rd wt fl, (Tryd.prog.info? 44).map (·.size) = some (rdC m a1 n1 c1 a2 n2 c2 rd wt fl).length := fun _ _ _ _ _ _ _ _ _ _ => infoRD
      have HLN := hide (slL_len hs)
      generalize hrc : rdC (n : Int) none 0 0 none 0 0 0 0 0 = rc at *
      generalize hcs : slV s = cs1 at *
      have hne : (s.sc != (n : Int)) = false := by simpa using hsc
      generalize hxs0 : s.sc = xs0 at *
      generalize hxt : s.t = xt at *
      have HRC := hide hrc
      have HCS1 := hide hcs
      have HSO := hide hs
      have HN6 := hide hn6
      clear hs ht hx hm hcs HNB hsc hi hsec hrel hrc hxs0 hxt
      go_enter Tryd.func5, Tryd.ntmps5
      go_wp2_with (first
        | (refine wpList_boxJ rfl 27 (.tmp 1) rfl rfl ?_; intro w1 hA1 hb1 hs1
           have HA1 := hide hA1
           have HB1 := hide hb1
           clear hA1 hb1 hs1)
        | fail)
      refine (unhide HN _ HB1.out).mono ?_
      rintro e w2 ⟨p, rfl, hS2, hb2⟩
      have HA2 := hide (HA1.out.below hb2)
      have HS2 := hide hS2
      clear hS2 hb2 HA1 HN
      go_wp2_with fail
      refine (unhide HR _).mono ?_
      rintro e w3 ⟨hb3, rfl⟩
      have HX : Hid (∀ w4, Arr w4 w3.heap.size 44 rc → (w3.alloc (.cells z6D.toArray 44)).grownBy w4 (some w3.heap.size) → Sn w w4 p _ ∧ Arr w4 w.heap.size 27 cs1) := hide (fun w4 hA4 hg4 => by
        have hba := jalloc_below w3 (.cells z6D.toArray 44)
        have hb4 := jbelow_grown hba hg4 hba.size (Nat.le_refl _)
        exact ⟨(HS2.out.below hb3).below hb4, (HA2.out.below hb3).below hb4⟩)
      have HLO9 : Hid (w.heap.size ≤ w3.heap.size) := hide (Nat.le_trans HS2.out.be.size hb3.size)
      clear hb3
      go_wp2_with (first
        | (refine wpList_allocJ rfl 44 rfl infoD0 ?_)
        | (refine wpList_storeJ rfl (.tmp 9) (.tmp 28) 44 rfl rfl (ds := rc) rfl (Arr.new w3 z6D 44) hinf6 hlen6 hone6 ?_; intro w4 hA4 hg4
           obtain ⟨hS4, hA44⟩ := unhide HX w4 hA4 hg4
           have hrg4 := hA44.rangeJ
           have HS4 := hide hS4
           have HA4 := hide hA44
           have HD4 := hide hA4
           clear hA4 hg4 HX hS4 hA44 HS2 HA2)
        | (refine wpList_loadJ rfl 27 (.tmp 4) rfl _ 0 rfl cs1 _ hrg4 Tryd.underlying27 rfl hinf ?_)
        | fail)
      refine (unhide HNW _ _ HS4.out).mono ?_
      rintro e w5 ⟨pw, rfl, hR5, hb5⟩
      have HR5 := hide hR5
      have hA5 := HA4.out.below hb5
      have hrg5 := hA5.rangeJ
      have HA5 := hide hA5
      have HD5 := hide (HD4.out.below hb5)
      clear hb5 HNW HS4 HA4 hA5 hrg4 HD4 hR5
      go_wp2_with (first
        | (refine wpList_loadJ rfl 27 (.tmp 4) rfl _ 0 rfl cs1 _ hrg5 Tryd.underlying27 rfl hinf ?_)
        | fail)
      refine (unhide HNN _).mono ?_
      rintro e w6 ⟨rfl, hb6⟩
      have HR6 := hide (HR5.out.below hb6)
      have hA6 := HA5.out.below hb6
      have hrg6 := hA6.rangeJ
      have HA6 := hide hA6
      have HD6 := hide (HD5.out.below hb6)
      clear hb6 HNN HR5 HA5 hA6 hrg5 HD5
      go_wp2_with (first
        | (refine wpList_loadJ rfl 27 (.tmp 4) rfl _ 0 rfl cs1 _ hrg6 Tryd.underlying27 rfl hinf ?_)
        | fail)
      refine (unhide HEN _).mono ?_
      rintro e w7 ⟨u7, rfl, ho7, hb7⟩
      obtain ⟨ua, uc, rfl⟩ : ∃ ua uc, u7 = .slice ua 512 uc := by
        obtain ⟨ua, un, uc, rfl⟩ := ho7.shape
        have := ho7.isB.lenEq
        rw [HLN.out] at this
        subst this
        exact ⟨ua, uc, rfl⟩
      have HR7 := hide (HR6.out.below hb7)
      have HW7 : Hid (Wd w w7 w3.heap.size (.slice ua 512 uc) s (RQ n i (slL s) 0)) := hide (unhide HD0 _ _ _ (HD6.out.below hb7) (HA6.out.below hb7) (ho7.mono (Nat.le_trans HLO9.out (Nat.le_trans (by have := HD6.out.lt; omega) (Nat.le_refl _)))) HLO9.out)
      clear ho7 hb7 HEN hrg6 HA6 HR6 HD6 HD0
      generalize w3.heap.size = g9 at *
      go_wp2_with fail
      refine (unhide HA0 _ _ HR7.out.sn).mono ?_
      rintro e w8 ⟨rfl, hb8⟩
      have HR8 := hide (HR7.out.below hb8)
      have HW8 := hide (HW7.out.below hb8)
      obtain ⟨k0, _, _⟩ := unhide HCS _ (by have := HW8.out.sl; rw [HCS1.out] at this; exact this)
      clear hb8 HR7 HW7
      go_wp2_with (first
        | (refine wpList_bldOnA (by rfl) 42 rfl bldA0 ?_)
        | fail)
      have HINFD := hide hinfD
      clear hinfD k0
      go_loopw [17] (fun iv W => ∃ k : Nat, k ≤ 5 ∧ iv = .int .i64 k ∧ Hid (Rw w W p (DQ n i (slL s) (min k 2)) pw s ((min k 2 : Nat) : Int)) ∧ Hid (Wd w W g9 (.slice ua 512 uc) s (RQ n i (slL s) (min k 2)))) (fun iv _ => 5 - (intOf iv).toNat)
      case atStart => exact ⟨0, by decide, rfl, HR8, HW8⟩
      case round =>
        clear HR8 HW8
        obtain ⟨k, hk, rfl, HRw, HWd⟩ := hrel
        by_cases hc : (k : Int) < x2
        case neg =>
          have hcd : decide ((k : Int) < x2) = false := by simpa using hc
          go_wp2
          go_ret
          exact ⟨rfl, HRw.out.sn.be⟩
        by_cases h5 : k < 5
        case neg =>
          have h5d : decide ((k : Int) < 5) = false := by simp; omega
          go_wp2
          go_ret
          exact ⟨rfl, HRw.out.sn.be⟩
        have h5I : (k : Int) < 5 := by omega
        by_cases hk0 : k = 0
        · subst hk0
          have HR0 : Hid (Rw w wr p (DQ n i (slL s) 0) pw s 0) := HRw
          have HW0 : Hid (Wd w wr g9 (.slice ua 512 uc) s (RQ n i (slL s) 0)) := HWd
          clear HRw HWd hk h5
          go_wp2_with fail
          refine (unhide HT0 _ _ _ HR0.out).mono ?_
          rintro e w10 ⟨rfl, hR10, hC10⟩
          have hW10 := HW0.out.cj hC10
          obtain ⟨a1, n1, c1, a2, n2, c2, q1, q2, q3⟩ := hW10.doc
          have hrgD := q1.rangeJ
          obtain ⟨_, kt, _⟩ := unhide HCS _ (by have := hW10.sl; rw [HCS1.out] at this; exact this)
          have HWC := hide (unhide HWRT _ a1 n1 c1 a2 n2 c2 _ _ q3 hW10.bs.isB)
          have HW10 := hide hW10
          have HR10 := hide hR10
          have HQ1 := hide q1
          have HQ2 := hide q2
          have hinfA := unhide HINFD ((RQ n i (slL s) 0).n : Int) a1 n1 c1 a2 n2 c2 (RQ n i (slL s) 0).rd (RQ n i (slL s) 0).wt (RQ n i (slL s) 0).fl
          clear hR10 hC10 hW10 q1 q2 q3 HR0 HW0
          generalize rdC ((RQ n i (slL s) 0).n : Int) a1 n1 c1 a2 n2 c2 (RQ n i (slL s) 0).rd (RQ n i (slL s) 0).wt (RQ n i (slL s) 0).fl = rcA at *
          go_wp2_with (first
            | (refine wpList_loadJ rfl 44 (.tmp 9) rfl _ 0 rfl rcA _ hrgD Tryd.underlying44 rfl hinfA ?_)
            | fail)
          refine (unhide HWC).mono ?_
          rintro e w11 ⟨a3, n3, c3, rfl, hI11, hb11⟩
          have HQ11 := hide (HQ1.out.below hb11)
          have HW11 := hide (HW10.out.below hb11)
          have HR11 := hide (HR10.out.below hb11)
          have HI11 := hide hI11
          have HI2 := hide (HQ2.out.below hb11)
          have hinfB := unhide HINFD ((RQ n i (slL s) 1).n : Int) a1 n1 c1 a3 n3 c3 (RQ n i (slL s) 1).rd (RQ n i (slL s) 1).wt (RQ n i (slL s) 1).fl
          have honeB := rdC_oneS ((RQ n i (slL s) 1).n : Int) a1 n1 c1 a3 n3 c3 (RQ n i (slL s) 1).rd (RQ n i (slL s) 1).wt (RQ n i (slL s) 1).fl
          have hlenB : rcA.length = (rdC ((RQ n i (slL s) 1).n : Int) a1 n1 c1 a3 n3 c3 (RQ n i (slL s) 1).rd (RQ n i (slL s) 1).wt (RQ n i (slL s) 1).fl).length := Option.some.inj (hinfA.symm.trans hinfB)
          have HPUT : Hid (∀ w12, w11.grownBy w12 (some g9) → Arr w12 g9 44 (rdC ((RQ n i (slL s) 1).n : Int) a1 n1 c1 a3 n3 c3 (RQ n i (slL s) 1).rd (RQ n i (slL s) 1).wt (RQ n i (slL s) 1).fl) → Wd w w12 g9 (.slice ua 512 uc) s (RQ n i (slL s) 1) ∧ Rw w w12 p (DQ n i (slL s) 1) pw s 1) := hide (fun w12 hg12 hA12 => HW11.out.put HR11.out hg12 hA12 (by rw [HLA1.out.1]; exact HI2.out) HI11.out)
          clear hb11 hI11 HWC HW10 HR10 HQ1 HQ2 hrgD HINFD
          generalize rdC ((RQ n i (slL s) 1).n : Int) a1 n1 c1 a3 n3 c3 (RQ n i (slL s) 1).rd (RQ n i (slL s) 1).wt (RQ n i (slL s) 1).fl = rcB at *
          go_wp2_with (first
            | (refine wpList_storeJ rfl (.tmp 9) (.tmp 115) 44 rfl rfl (ds := rcB) rfl HQ11.out hinfB hlenB honeB ?_; intro w12 hA12 hg12
               obtain ⟨hW12, hR12⟩ := unhide HPUT w12 hg12 hA12
               have HW12 := hide hW12
               have HR12 := hide hR12
               clear hA12 hg12 hW12 hR12 HPUT)
            | fail)
          obtain ⟨b1, m1, d1, b2, m2, d2, Q1, Q2, Q3⟩ := HW12.out.doc
          have hrel1 := unhide HREL 1
          have HACR : Hid (∀ W, Below w12.heap.size w12 W → Calls Tryd.prog 19 #[.pointer (some ⟨p, 0, none⟩)] W fun e w' => e = .returned (.agg #[.int .i64 (RQ n i (slL s) 1).rd, .int .i64 (RQ n i (slL s) 1).wt, .int .i64 (RQ n i (slL s) 1).fl]) ∧ Below W.heap.size W w') := hide (fun W hW => by have := unhide HAC W p _ (HR12.out.below hW).sn; rw [← hrel1.rd, ← hrel1.wt, ← hrel1.fl] at this; exact this)
          have HIMR : Hid (∀ W, Below w12.heap.size w12 W → Calls Tryd.prog 25 #[.pointer (some ⟨p, 0, none⟩)] W fun e w' => ∃ v, e = .returned v ∧ IsBB w' v (DQ n i (slL s) 1).la ∧ Below W.heap.size W w') := hide (fun W hW => unhide HIM W p _ (HR12.out.below hW).sn)
          have HRIM : Hid (∀ W, Below w12.heap.size w12 W → Calls Tryd.prog 26 #[.agg (rdC ((RQ n i (slL s) 1).n : Int) b1 m1 d1 b2 m2 d2 (RQ n i (slL s) 1).rd (RQ n i (slL s) 1).wt (RQ n i (slL s) 1).fl).toArray] W fun e w' => ∃ v, e = .returned v ∧ IsBB w' v (DQ n i (slL s) 1).la ∧ Below W.heap.size W w') := hide (fun W hW => by have := rimage_calls (n := (RQ n i (slL s) 1).n) (vb := .slice b2 m2 d2) (rd := (RQ n i (slL s) 1).rd) (wt := (RQ n i (slL s) 1).wt) (fl := (RQ n i (slL s) 1).fl) (Q2.below hW) hrel1.lok (by rw [hrel1.n]; exact HR12.out.sn.ok.hi); rw [rel_image hrel1] at this; exact this)
          have HS : Hid (∀ W, Below w12.heap.size w12 W → W.rangeAt g9 3 [.int .i64 (RQ n i (slL s) 1).rd, .int .i64 (RQ n i (slL s) 1).wt, .int .i64 (RQ n i (slL s) 1).fl] ∧ W.rangeAt g9 0 (rdC ((RQ n i (slL s) 1).n : Int) b1 m1 d1 b2 m2 d2 (RQ n i (slL s) 1).rd (RQ n i (slL s) 1).wt (RQ n i (slL s) 1).fl)) := hide (fun W hW => by
            have hA := Q1.below hW
            refine ⟨fun j v hv => ?_, hA.rangeJ⟩
            rw [hA.cell]
            match j, hv with
            | 0, hv => exact hv
            | 1, hv => exact hv
            | 2, hv => exact hv)
          have HPOS : Hid (0 < (DQ n i (slL s) 1).la.length) := hide (by have := HR12.out.sn.ok.lo; omega)
          have hinfZ : (Tryd.prog.info? 44).map (·.size) = some (rdC ((RQ n i (slL s) 1).n : Int) b1 m1 d1 b2 m2 d2 (RQ n i (slL s) 1).rd (RQ n i (slL s) 1).wt (RQ n i (slL s) 1).fl).length := infoRD
          have hinfY : (Tryd.prog.info? 42).map (·.size) = some [Value.int .i64 (RQ n i (slL s) 1).rd, .int .i64 (RQ n i (slL s) 1).wt, .int .i64 (RQ n i (slL s) 1).fl].length := infoAc
          generalize rdC ((RQ n i (slL s) 1).n : Int) b1 m1 d1 b2 m2 d2 (RQ n i (slL s) 1).rd (RQ n i (slL s) 1).wt (RQ n i (slL s) 1).fl = rcZ at *
          generalize (RQ n i (slL s) 1).rd = rdz at *
          generalize (RQ n i (slL s) 1).wt = wtz at *
          generalize (RQ n i (slL s) 1).fl = flz at *
          clear Q1 Q2 Q3 hrel1
          have HBD := hide ((Below.refl w12.heap.size w12).drew)
          refine wp_region_held_drew (S := fun W => W.rangeAt g9 3 [.int .i64 rdz, .int .i64 wtz, .int .i64 flz] ∧ W.rangeAt g9 0 rcZ) (by kernel_rfl) (unhide HS _ HBD.out) (fun hHeld => ?_)
          refine wpAnyH_take (i := 0) (v := .int .i64 0) rfl (by kernel_rfl) (by kernel_rfl) (by kernel_rfl) (fun _ _ _ h => h) (Or.inl ⟨by rfl, fun w hSw => by obtain ⟨hS1, hS2⟩ := hSw; go_simp⟩) (by assumption) ?_
          simp only [List.getElem_toArray, List.getElem_cons_zero, Act.put, List.setIfInBounds_toArray, List.set_cons_zero, List.set_cons_succ]
          refine wpAnyH_take (i := 1) (v := .bool false) rfl (by kernel_rfl) (by kernel_rfl) (by kernel_rfl) (fun _ _ _ h => h) (Or.inl ⟨by rfl, fun w hSw => by obtain ⟨hS1, hS2⟩ := hSw; go_simp⟩) (by assumption) ?_
          simp only [List.getElem_toArray, List.getElem_cons_succ, List.getElem_cons_zero, Act.put, List.setIfInBounds_toArray, List.set_cons_zero, List.set_cons_succ]
          refine wpAnyH_take (i := 2) (v := .bool false) rfl (by kernel_rfl) (by kernel_rfl) (by kernel_rfl) (fun _ _ _ h => h) (Or.inl ⟨by rfl, fun w hSw => by obtain ⟨hS1, hS2⟩ := hSw; go_simp⟩) (by assumption) ?_
          simp only [List.getElem_toArray, List.getElem_cons_succ, List.getElem_cons_zero, Act.put, List.setIfInBounds_toArray, List.set_cons_zero, List.set_cons_succ]
          refine wpAnyH_take (i := 3) (v := .bool false) rfl (by kernel_rfl) (by kernel_rfl) (by kernel_rfl) (fun _ _ _ h => h) (Or.inl ⟨by rfl, fun w hSw => by obtain ⟨hS1, hS2⟩ := hSw; go_simp⟩) (by assumption) ?_
          simp only [List.getElem_toArray, List.getElem_cons_succ, List.getElem_cons_zero, Act.put, List.setIfInBounds_toArray, List.set_cons_zero, List.set_cons_succ]
          refine wpAnyH_take (i := 4) (v := .int .i64 0) rfl (by kernel_rfl) (by kernel_rfl) (by kernel_rfl) (fun _ _ _ h => h) (Or.inl ⟨by rfl, fun w hSw => by obtain ⟨hS1, hS2⟩ := hSw; go_simp⟩) (by assumption) ?_
          simp only [List.getElem_toArray, List.getElem_cons_succ, List.getElem_cons_zero, Act.put, List.setIfInBounds_toArray, List.set_cons_zero, List.set_cons_succ]
          refine wpAnyH_take (i := 5) (v := .bool false) rfl (by kernel_rfl) (by kernel_rfl) (by kernel_rfl) (fun _ _ _ h => h) (Or.inl ⟨by rfl, fun w hSw => by obtain ⟨hS1, hS2⟩ := hSw; go_simp⟩) (by assumption) ?_
          simp only [List.getElem_toArray, List.getElem_cons_succ, List.getElem_cons_zero, Act.put, List.setIfInBounds_toArray, List.set_cons_zero, List.set_cons_succ]
          refine wpAnyH_take (i := 6) (v := .bool false) rfl (by kernel_rfl) (by kernel_rfl) (by kernel_rfl) (fun _ _ _ h => h) (Or.inl ⟨by rfl, fun w hSw => by obtain ⟨hS1, hS2⟩ := hSw; go_simp⟩) (by assumption) ?_
          simp only [List.getElem_toArray, List.getElem_cons_succ, List.getElem_cons_zero, Act.put, List.setIfInBounds_toArray, List.set_cons_zero, List.set_cons_succ]
          refine wpAnyH_take (i := 7) (v := .bool false) rfl (by kernel_rfl) (by kernel_rfl) (by kernel_rfl) (fun _ _ _ h => h) (Or.inl ⟨by rfl, fun w hSw => by obtain ⟨hS1, hS2⟩ := hSw; go_simp⟩) (by assumption) ?_
          simp only [List.getElem_toArray, List.getElem_cons_succ, List.getElem_cons_zero, Act.put, List.setIfInBounds_toArray, List.set_cons_zero, List.set_cons_succ]
          refine wpAnyH_take (i := 8) (v := .bool false) rfl (by kernel_rfl) (by kernel_rfl) (by kernel_rfl) (fun _ _ _ h => h) (Or.inl ⟨by rfl, fun w hSw => by obtain ⟨hS1, hS2⟩ := hSw; go_simp⟩) (by assumption) ?_
          simp only [List.getElem_toArray, List.getElem_cons_succ, List.getElem_cons_zero, Act.put, List.setIfInBounds_toArray, List.set_cons_zero, List.set_cons_succ]
          refine wpAnyH_take (i := 9) (v := .pointer (some ⟨p, 0, none⟩)) rfl (by kernel_rfl) (by kernel_rfl) (by kernel_rfl) (fun _ _ _ h => h) (Or.inl ⟨by rfl, fun w hSw => by obtain ⟨hS1, hS2⟩ := hSw; go_simp⟩) (by assumption) ?_
          simp only [List.getElem_toArray, List.getElem_cons_succ, List.getElem_cons_zero, Act.put, List.setIfInBounds_toArray, List.set_cons_zero, List.set_cons_succ]
          refine wpAnyH_take (i := 11) (v := .pointer (some ⟨g9, 3, none⟩)) rfl (by kernel_rfl) (by kernel_rfl) (by kernel_rfl) (fun _ _ _ h => h) (Or.inl ⟨by rfl, fun w hSw => by obtain ⟨hS1, hS2⟩ := hSw; go_simp⟩) (by assumption) ?_
          simp only [List.getElem_toArray, List.getElem_cons_succ, List.getElem_cons_zero, Act.put, List.setIfInBounds_toArray, List.set_cons_zero, List.set_cons_succ]
          refine wpAnyH_take (i := 12) (v := .agg ([Value.int .i64 rdz, .int .i64 wtz, .int .i64 flz]).toArray) rfl (by kernel_rfl) (by kernel_rfl) (by kernel_rfl) (fun _ _ _ h => h) (yieldsIf_load_mid (by rfl) _ _ rfl _ _ rfl _ _ (fun w hSw => hSw.1) Tryd.underlying42 rfl hinfY) (by assumption) ?_
          simp only [List.getElem_toArray, List.getElem_cons_succ, List.getElem_cons_zero, Act.put, List.setIfInBounds_toArray, List.set_cons_zero, List.set_cons_succ]
          refine wpAnyH_ready (rs := [10]) (by kernel_rfl) (by simp) (AllReadyH.cons rfl (fun K hK => ?_) AllReadyH.nil)
          refine step_call1J (by rfl) 19 acts_enterS (.tmp 130) _ rfl rfl (unhide HACR _ HBD.out) ?_
          rintro e wa ⟨rfl, hba⟩
          have HBa := hide (below_then HBD.out hba)
          clear hba
          refine ⟨_, rfl, ?_⟩
          refine hK.out _ _ (unhide HS _ HBa.out) (fun hJa => ?_)
          clear hK K
          simp only [List.getElem_toArray, List.getElem_cons_succ, List.getElem_cons_zero, Act.put, List.setIfInBounds_toArray, List.set_cons_zero, List.set_cons_succ]
          refine wpAnyH_take (i := 13) (v := .bool false) rfl (by kernel_rfl) (by kernel_rfl) (by kernel_rfl) (fun _ _ _ h => h) (Or.inl ⟨by rfl, fun w hSw => by obtain ⟨hS1, hS2⟩ := hSw; go_simp⟩) (by assumption) ?_
          simp only [List.getElem_toArray, List.getElem_cons_succ, List.getElem_cons_zero, Act.put, List.setIfInBounds_toArray, List.set_cons_zero, List.set_cons_succ]
          refine wpAnyH_take (i := 14) (v := .bool false) rfl (by kernel_rfl) (by kernel_rfl) (by kernel_rfl) (fun _ _ _ h => h) (Or.inl ⟨by rfl, fun w hSw => by obtain ⟨hS1, hS2⟩ := hSw; go_simp⟩) (by assumption) ?_
          simp only [List.getElem_toArray, List.getElem_cons_succ, List.getElem_cons_zero, Act.put, List.setIfInBounds_toArray, List.set_cons_zero, List.set_cons_succ]
          refine wpAnyH_take (i := 15) (v := .bool false) rfl (by kernel_rfl) (by kernel_rfl) (by kernel_rfl) (fun _ _ _ h => h) (Or.inl ⟨by rfl, fun w hSw => by obtain ⟨hS1, hS2⟩ := hSw; go_simp⟩) (by assumption) ?_
          simp only [List.getElem_toArray, List.getElem_cons_succ, List.getElem_cons_zero, Act.put, List.setIfInBounds_toArray, List.set_cons_zero, List.set_cons_succ]
          refine wpAnyH_take (i := 16) (v := .pointer (some ⟨p, 0, none⟩)) rfl (by kernel_rfl) (by kernel_rfl) (by kernel_rfl) (fun _ _ _ h => h) (Or.inl ⟨by rfl, fun w hSw => by obtain ⟨hS1, hS2⟩ := hSw; go_simp⟩) (by assumption) ?_
          simp only [List.getElem_toArray, List.getElem_cons_succ, List.getElem_cons_zero, Act.put, List.setIfInBounds_toArray, List.set_cons_zero, List.set_cons_succ]
          refine wpAnyH_take (i := 18) (v := .agg (rcZ).toArray) rfl (by kernel_rfl) (by kernel_rfl) (by kernel_rfl) (fun _ _ _ h => h) (yieldsIf_load_mid (by rfl) _ _ rfl _ _ rfl _ _ (fun w hSw => hSw.2) Tryd.underlying44 rfl hinfZ) (by assumption) ?_
          simp only [List.getElem_toArray, List.getElem_cons_succ, List.getElem_cons_zero, Act.put, List.setIfInBounds_toArray, List.set_cons_zero, List.set_cons_succ]
          refine wpAnyH_ready (rs := [17]) (by kernel_rfl) (by simp) (AllReadyH.cons rfl (fun K hK => ?_) AllReadyH.nil)
          refine step_call1J (by rfl) 25 image_enterS (.tmp 137) _ rfl rfl (unhide HIMR _ HBa.out) ?_
          rintro e wb ⟨vI, rfl, hIb, hbb⟩
          have HBb := hide (below_then HBa.out hbb)
          have HIb := hide hIb
          clear hbb hIb
          refine ⟨_, rfl, ?_⟩
          refine hK.out _ _ (unhide HS _ HBb.out) (fun hJb => ?_)
          clear hK K
          simp only [List.getElem_toArray, List.getElem_cons_succ, List.getElem_cons_zero, Act.put, List.setIfInBounds_toArray, List.set_cons_zero, List.set_cons_succ]
          refine wpAnyH_ready (rs := [19]) (by kernel_rfl) (by simp) (AllReadyH.cons rfl (fun K hK => ?_) AllReadyH.nil)
          refine step_call1J (by rfl) 26 rimage_enterS (.tmp 139) _ rfl rfl (unhide HRIM _ HBb.out) ?_
          rintro e wc ⟨vJ, rfl, hIc, hbc⟩
          have HBc := hide (below_then HBb.out hbc)
          have HIb2 := hide (HIb.out.below hbc)
          have HIc := hide hIc
          clear hbc hIc
          refine ⟨_, rfl, ?_⟩
          refine hK.out _ _ (unhide HS _ HBc.out) (fun hJc => ?_)
          clear hK K
          simp only [List.getElem_toArray, List.getElem_cons_succ, List.getElem_cons_zero, Act.put, List.setIfInBounds_toArray, List.set_cons_zero, List.set_cons_succ]
          refine wpAnyH_ready (rs := [20]) (by kernel_rfl) (by simp) (AllReadyH.cons rfl (fun K hK => ?_) AllReadyH.nil)
          refine step_call2J (by rfl) 24 same_enterS (.tmp 138) (.tmp 140) _ rfl rfl rfl (sameImg_calls HIb2.out HIc.out HPOS.out) ?_
          rintro e wd ⟨rfl, hbd⟩
          have HBz := hide (below_then HBc.out hbd)
          clear hbd
          refine ⟨_, rfl, ?_⟩
          refine hK.out _ _ (unhide HS _ HBz.out) (fun hJd => ?_)
          clear hK K
          simp only [List.getElem_toArray, List.getElem_cons_succ, List.getElem_cons_zero, Act.put, List.setIfInBounds_toArray, List.set_cons_zero, List.set_cons_succ]
          refine wpAnyH_take (i := 21) (v := .bool false) rfl (by kernel_rfl) (by kernel_rfl) (by kernel_rfl) (fun _ _ _ h => h) (Or.inl ⟨by rfl, fun w hSw => by obtain ⟨hS1, hS2⟩ := hSw; go_simp⟩) (by assumption) ?_
          simp only [List.getElem_toArray, List.getElem_cons_succ, List.getElem_cons_zero, Act.put, List.setIfInBounds_toArray, List.set_cons_zero, List.set_cons_succ]
          refine wpAnyH_take (i := 22) (v := .bool false) rfl (by kernel_rfl) (by kernel_rfl) (by kernel_rfl) (fun _ _ _ h => h) (Or.inl ⟨by rfl, fun w hSw => by obtain ⟨hS1, hS2⟩ := hSw; go_simp⟩) (by assumption) ?_
          simp only [List.getElem_toArray, List.getElem_cons_succ, List.getElem_cons_zero, Act.put, List.setIfInBounds_toArray, List.set_cons_zero, List.set_cons_succ]
          refine wpAnyH_done (by kernel_rfl) ?_ _
          have HRz := hide (HR12.out.below HBz.out)
          have HWz := hide (HW12.out.below HBz.out)
          go_wp2_with fail
          refine ⟨⟨1, by decide, rfl, HRz, HWz⟩, ?_⟩
          decide
        by_cases hk1 : k = 1
        · subst hk1
          have HR0 : Hid (Rw w wr p (DQ n i (slL s) 1) pw s 1) := HRw
          have HW0 : Hid (Wd w wr g9 (.slice ua 512 uc) s (RQ n i (slL s) 1)) := HWd
          clear HRw HWd hk h5 hk0
          go_wp2_with fail
          refine (unhide HT1 _ _ _ HR0.out).mono ?_
          rintro e w10 ⟨rfl, hR10, hC10⟩
          have hW10 := HW0.out.cj hC10
          obtain ⟨a1, n1, c1, a2, n2, c2, q1, q2, q3⟩ := hW10.doc
          have hrgD := q1.rangeJ
          have HWC := hide (unhide HFLT _ a1 n1 c1 a2 n2 c2 q2 q3)
          have HW10 := hide hW10
          have HR10 := hide hR10
          have HQ1 := hide q1
          have hinfA := unhide HINFD ((RQ n i (slL s) 1).n : Int) a1 n1 c1 a2 n2 c2 (RQ n i (slL s) 1).rd (RQ n i (slL s) 1).wt (RQ n i (slL s) 1).fl
          clear hR10 hC10 hW10 q1 q2 q3 HR0 HW0
          generalize rdC ((RQ n i (slL s) 1).n : Int) a1 n1 c1 a2 n2 c2 (RQ n i (slL s) 1).rd (RQ n i (slL s) 1).wt (RQ n i (slL s) 1).fl = rcA at *
          go_wp2_with (first
            | (refine wpList_loadJ rfl 44 (.tmp 9) rfl _ 0 rfl rcA _ hrgD Tryd.underlying44 rfl hinfA ?_)
            | fail)
          refine (unhide HWC).mono ?_
          rintro e w11 ⟨a3, n3, c3, rfl, hI11, hb11⟩
          have HQ11 := hide (HQ1.out.below hb11)
          have HW11 := hide (HW10.out.below hb11)
          have HR11 := hide (HR10.out.below hb11)
          have HI11 := hide hI11
          have hinfB := unhide HINFD ((RQ n i (slL s) 2).n : Int) a3 n3 c3 none 0 0 (RQ n i (slL s) 2).rd (RQ n i (slL s) 2).wt (RQ n i (slL s) 2).fl
          have honeB := rdC_oneS ((RQ n i (slL s) 2).n : Int) a3 n3 c3 none 0 0 (RQ n i (slL s) 2).rd (RQ n i (slL s) 2).wt (RQ n i (slL s) 2).fl
          have hlenB : rcA.length = (rdC ((RQ n i (slL s) 2).n : Int) a3 n3 c3 none 0 0 (RQ n i (slL s) 2).rd (RQ n i (slL s) 2).wt (RQ n i (slL s) 2).fl).length := Option.some.inj (hinfA.symm.trans hinfB)
          have HPUT : Hid (∀ w12, w11.grownBy w12 (some g9) → Arr w12 g9 44 (rdC ((RQ n i (slL s) 2).n : Int) a3 n3 c3 none 0 0 (RQ n i (slL s) 2).rd (RQ n i (slL s) 2).wt (RQ n i (slL s) 2).fl) → Wd w w12 g9 (.slice ua 512 uc) s (RQ n i (slL s) 2) ∧ Rw w w12 p (DQ n i (slL s) 2) pw s 2) := hide (fun w12 hg12 hA12 => HW11.out.put HR11.out hg12 hA12 HI11.out (by rw [HLA1.out.2]; exact IsAts.nil _))
          clear hb11 hI11 HWC HW10 HR10 HQ1 hrgD HINFD
          generalize rdC ((RQ n i (slL s) 2).n : Int) a3 n3 c3 none 0 0 (RQ n i (slL s) 2).rd (RQ n i (slL s) 2).wt (RQ n i (slL s) 2).fl = rcB at *
          go_wp2_with (first
            | (refine wpList_storeJ rfl (.tmp 9) (.tmp 120) 44 rfl rfl (ds := rcB) rfl HQ11.out hinfB hlenB honeB ?_; intro w12 hA12 hg12
               obtain ⟨hW12, hR12⟩ := unhide HPUT w12 hg12 hA12
               have HW12 := hide hW12
               have HR12 := hide hR12
               clear hA12 hg12 hW12 hR12 HPUT)
            | fail)
          obtain ⟨b1, m1, d1, b2, m2, d2, Q1, Q2, Q3⟩ := HW12.out.doc
          have hrel1 := unhide HREL 2
          have HACR : Hid (∀ W, Below w12.heap.size w12 W → Calls Tryd.prog 19 #[.pointer (some ⟨p, 0, none⟩)] W fun e w' => e = .returned (.agg #[.int .i64 (RQ n i (slL s) 2).rd, .int .i64 (RQ n i (slL s) 2).wt, .int .i64 (RQ n i (slL s) 2).fl]) ∧ Below W.heap.size W w') := hide (fun W hW => by have := unhide HAC W p _ (HR12.out.below hW).sn; rw [← hrel1.rd, ← hrel1.wt, ← hrel1.fl] at this; exact this)
          have HIMR : Hid (∀ W, Below w12.heap.size w12 W → Calls Tryd.prog 25 #[.pointer (some ⟨p, 0, none⟩)] W fun e w' => ∃ v, e = .returned v ∧ IsBB w' v (DQ n i (slL s) 2).la ∧ Below W.heap.size W w') := hide (fun W hW => unhide HIM W p _ (HR12.out.below hW).sn)
          have HRIM : Hid (∀ W, Below w12.heap.size w12 W → Calls Tryd.prog 26 #[.agg (rdC ((RQ n i (slL s) 2).n : Int) b1 m1 d1 b2 m2 d2 (RQ n i (slL s) 2).rd (RQ n i (slL s) 2).wt (RQ n i (slL s) 2).fl).toArray] W fun e w' => ∃ v, e = .returned v ∧ IsBB w' v (DQ n i (slL s) 2).la ∧ Below W.heap.size W w') := hide (fun W hW => by have := rimage_calls (n := (RQ n i (slL s) 2).n) (vb := .slice b2 m2 d2) (rd := (RQ n i (slL s) 2).rd) (wt := (RQ n i (slL s) 2).wt) (fl := (RQ n i (slL s) 2).fl) (Q2.below hW) hrel1.lok (by rw [hrel1.n]; exact HR12.out.sn.ok.hi); rw [rel_image hrel1] at this; exact this)
          have HS : Hid (∀ W, Below w12.heap.size w12 W → W.rangeAt g9 3 [.int .i64 (RQ n i (slL s) 2).rd, .int .i64 (RQ n i (slL s) 2).wt, .int .i64 (RQ n i (slL s) 2).fl] ∧ W.rangeAt g9 0 (rdC ((RQ n i (slL s) 2).n : Int) b1 m1 d1 b2 m2 d2 (RQ n i (slL s) 2).rd (RQ n i (slL s) 2).wt (RQ n i (slL s) 2).fl)) := hide (fun W hW => by
            have hA := Q1.below hW
            refine ⟨fun j v hv => ?_, hA.rangeJ⟩
            rw [hA.cell]
            match j, hv with
            | 0, hv => exact hv
            | 1, hv => exact hv
            | 2, hv => exact hv)
          have HPOS : Hid (0 < (DQ n i (slL s) 2).la.length) := hide (by have := HR12.out.sn.ok.lo; omega)
          have hinfZ : (Tryd.prog.info? 44).map (·.size) = some (rdC ((RQ n i (slL s) 2).n : Int) b1 m1 d1 b2 m2 d2 (RQ n i (slL s) 2).rd (RQ n i (slL s) 2).wt (RQ n i (slL s) 2).fl).length := infoRD
          have hinfY : (Tryd.prog.info? 42).map (·.size) = some [Value.int .i64 (RQ n i (slL s) 2).rd, .int .i64 (RQ n i (slL s) 2).wt, .int .i64 (RQ n i (slL s) 2).fl].length := infoAc
          generalize rdC ((RQ n i (slL s) 2).n : Int) b1 m1 d1 b2 m2 d2 (RQ n i (slL s) 2).rd (RQ n i (slL s) 2).wt (RQ n i (slL s) 2).fl = rcZ at *
          generalize (RQ n i (slL s) 2).rd = rdz at *
          generalize (RQ n i (slL s) 2).wt = wtz at *
          generalize (RQ n i (slL s) 2).fl = flz at *
          clear Q1 Q2 Q3 hrel1
          have HBD := hide ((Below.refl w12.heap.size w12).drew)
          refine wp_region_held_drew (S := fun W => W.rangeAt g9 3 [.int .i64 rdz, .int .i64 wtz, .int .i64 flz] ∧ W.rangeAt g9 0 rcZ) (by kernel_rfl) (unhide HS _ HBD.out) (fun hHeld => ?_)
          refine wpAnyH_take (i := 0) (v := .int .i64 0) rfl (by kernel_rfl) (by kernel_rfl) (by kernel_rfl) (fun _ _ _ h => h) (Or.inl ⟨by rfl, fun w hSw => by obtain ⟨hS1, hS2⟩ := hSw; go_simp⟩) (by assumption) ?_
          simp only [List.getElem_toArray, List.getElem_cons_zero, Act.put, List.setIfInBounds_toArray, List.set_cons_zero, List.set_cons_succ]
          refine wpAnyH_take (i := 1) (v := .bool false) rfl (by kernel_rfl) (by kernel_rfl) (by kernel_rfl) (fun _ _ _ h => h) (Or.inl ⟨by rfl, fun w hSw => by obtain ⟨hS1, hS2⟩ := hSw; go_simp⟩) (by assumption) ?_
          simp only [List.getElem_toArray, List.getElem_cons_succ, List.getElem_cons_zero, Act.put, List.setIfInBounds_toArray, List.set_cons_zero, List.set_cons_succ]
          refine wpAnyH_take (i := 2) (v := .bool false) rfl (by kernel_rfl) (by kernel_rfl) (by kernel_rfl) (fun _ _ _ h => h) (Or.inl ⟨by rfl, fun w hSw => by obtain ⟨hS1, hS2⟩ := hSw; go_simp⟩) (by assumption) ?_
          simp only [List.getElem_toArray, List.getElem_cons_succ, List.getElem_cons_zero, Act.put, List.setIfInBounds_toArray, List.set_cons_zero, List.set_cons_succ]
          refine wpAnyH_take (i := 3) (v := .bool true) rfl (by kernel_rfl) (by kernel_rfl) (by kernel_rfl) (fun _ _ _ h => h) (Or.inl ⟨by rfl, fun w hSw => by obtain ⟨hS1, hS2⟩ := hSw; go_simp⟩) (by assumption) ?_
          simp only [List.getElem_toArray, List.getElem_cons_succ, List.getElem_cons_zero, Act.put, List.setIfInBounds_toArray, List.set_cons_zero, List.set_cons_succ]
          refine wpAnyH_take (i := 4) (v := .int .i64 1) rfl (by kernel_rfl) (by kernel_rfl) (by kernel_rfl) (fun _ _ _ h => h) (Or.inl ⟨by rfl, fun w hSw => by obtain ⟨hS1, hS2⟩ := hSw; go_simp⟩) (by assumption) ?_
          simp only [List.getElem_toArray, List.getElem_cons_succ, List.getElem_cons_zero, Act.put, List.setIfInBounds_toArray, List.set_cons_zero, List.set_cons_succ]
          refine wpAnyH_take (i := 5) (v := .bool true) rfl (by kernel_rfl) (by kernel_rfl) (by kernel_rfl) (fun _ _ _ h => h) (Or.inl ⟨by rfl, fun w hSw => by obtain ⟨hS1, hS2⟩ := hSw; go_simp⟩) (by assumption) ?_
          simp only [List.getElem_toArray, List.getElem_cons_succ, List.getElem_cons_zero, Act.put, List.setIfInBounds_toArray, List.set_cons_zero, List.set_cons_succ]
          refine wpAnyH_take (i := 6) (v := .bool false) rfl (by kernel_rfl) (by kernel_rfl) (by kernel_rfl) (fun _ _ _ h => h) (Or.inl ⟨by rfl, fun w hSw => by obtain ⟨hS1, hS2⟩ := hSw; go_simp⟩) (by assumption) ?_
          simp only [List.getElem_toArray, List.getElem_cons_succ, List.getElem_cons_zero, Act.put, List.setIfInBounds_toArray, List.set_cons_zero, List.set_cons_succ]
          refine wpAnyH_take (i := 7) (v := .bool false) rfl (by kernel_rfl) (by kernel_rfl) (by kernel_rfl) (fun _ _ _ h => h) (Or.inl ⟨by rfl, fun w hSw => by obtain ⟨hS1, hS2⟩ := hSw; go_simp⟩) (by assumption) ?_
          simp only [List.getElem_toArray, List.getElem_cons_succ, List.getElem_cons_zero, Act.put, List.setIfInBounds_toArray, List.set_cons_zero, List.set_cons_succ]
          refine wpAnyH_take (i := 8) (v := .bool false) rfl (by kernel_rfl) (by kernel_rfl) (by kernel_rfl) (fun _ _ _ h => h) (Or.inl ⟨by rfl, fun w hSw => by obtain ⟨hS1, hS2⟩ := hSw; go_simp⟩) (by assumption) ?_
          simp only [List.getElem_toArray, List.getElem_cons_succ, List.getElem_cons_zero, Act.put, List.setIfInBounds_toArray, List.set_cons_zero, List.set_cons_succ]
          refine wpAnyH_take (i := 9) (v := .pointer (some ⟨p, 0, none⟩)) rfl (by kernel_rfl) (by kernel_rfl) (by kernel_rfl) (fun _ _ _ h => h) (Or.inl ⟨by rfl, fun w hSw => by obtain ⟨hS1, hS2⟩ := hSw; go_simp⟩) (by assumption) ?_
          simp only [List.getElem_toArray, List.getElem_cons_succ, List.getElem_cons_zero, Act.put, List.setIfInBounds_toArray, List.set_cons_zero, List.set_cons_succ]
          refine wpAnyH_take (i := 11) (v := .pointer (some ⟨g9, 3, none⟩)) rfl (by kernel_rfl) (by kernel_rfl) (by kernel_rfl) (fun _ _ _ h => h) (Or.inl ⟨by rfl, fun w hSw => by obtain ⟨hS1, hS2⟩ := hSw; go_simp⟩) (by assumption) ?_
          simp only [List.getElem_toArray, List.getElem_cons_succ, List.getElem_cons_zero, Act.put, List.setIfInBounds_toArray, List.set_cons_zero, List.set_cons_succ]
          refine wpAnyH_take (i := 12) (v := .agg ([Value.int .i64 rdz, .int .i64 wtz, .int .i64 flz]).toArray) rfl (by kernel_rfl) (by kernel_rfl) (by kernel_rfl) (fun _ _ _ h => h) (yieldsIf_load_mid (by rfl) _ _ rfl _ _ rfl _ _ (fun w hSw => hSw.1) Tryd.underlying42 rfl hinfY) (by assumption) ?_
          simp only [List.getElem_toArray, List.getElem_cons_succ, List.getElem_cons_zero, Act.put, List.setIfInBounds_toArray, List.set_cons_zero, List.set_cons_succ]
          refine wpAnyH_ready (rs := [10]) (by kernel_rfl) (by simp) (AllReadyH.cons rfl (fun K hK => ?_) AllReadyH.nil)
          refine step_call1J (by rfl) 19 acts_enterS (.tmp 130) _ rfl rfl (unhide HACR _ HBD.out) ?_
          rintro e wa ⟨rfl, hba⟩
          have HBa := hide (below_then HBD.out hba)
          clear hba
          refine ⟨_, rfl, ?_⟩
          refine hK.out _ _ (unhide HS _ HBa.out) (fun hJa => ?_)
          clear hK K
          simp only [List.getElem_toArray, List.getElem_cons_succ, List.getElem_cons_zero, Act.put, List.setIfInBounds_toArray, List.set_cons_zero, List.set_cons_succ]
          refine wpAnyH_take (i := 13) (v := .bool false) rfl (by kernel_rfl) (by kernel_rfl) (by kernel_rfl) (fun _ _ _ h => h) (Or.inl ⟨by rfl, fun w hSw => by obtain ⟨hS1, hS2⟩ := hSw; go_simp⟩) (by assumption) ?_
          simp only [List.getElem_toArray, List.getElem_cons_succ, List.getElem_cons_zero, Act.put, List.setIfInBounds_toArray, List.set_cons_zero, List.set_cons_succ]
          refine wpAnyH_take (i := 14) (v := .bool false) rfl (by kernel_rfl) (by kernel_rfl) (by kernel_rfl) (fun _ _ _ h => h) (Or.inl ⟨by rfl, fun w hSw => by obtain ⟨hS1, hS2⟩ := hSw; go_simp⟩) (by assumption) ?_
          simp only [List.getElem_toArray, List.getElem_cons_succ, List.getElem_cons_zero, Act.put, List.setIfInBounds_toArray, List.set_cons_zero, List.set_cons_succ]
          refine wpAnyH_take (i := 15) (v := .bool false) rfl (by kernel_rfl) (by kernel_rfl) (by kernel_rfl) (fun _ _ _ h => h) (Or.inl ⟨by rfl, fun w hSw => by obtain ⟨hS1, hS2⟩ := hSw; go_simp⟩) (by assumption) ?_
          simp only [List.getElem_toArray, List.getElem_cons_succ, List.getElem_cons_zero, Act.put, List.setIfInBounds_toArray, List.set_cons_zero, List.set_cons_succ]
          refine wpAnyH_take (i := 16) (v := .pointer (some ⟨p, 0, none⟩)) rfl (by kernel_rfl) (by kernel_rfl) (by kernel_rfl) (fun _ _ _ h => h) (Or.inl ⟨by rfl, fun w hSw => by obtain ⟨hS1, hS2⟩ := hSw; go_simp⟩) (by assumption) ?_
          simp only [List.getElem_toArray, List.getElem_cons_succ, List.getElem_cons_zero, Act.put, List.setIfInBounds_toArray, List.set_cons_zero, List.set_cons_succ]
          refine wpAnyH_take (i := 18) (v := .agg (rcZ).toArray) rfl (by kernel_rfl) (by kernel_rfl) (by kernel_rfl) (fun _ _ _ h => h) (yieldsIf_load_mid (by rfl) _ _ rfl _ _ rfl _ _ (fun w hSw => hSw.2) Tryd.underlying44 rfl hinfZ) (by assumption) ?_
          simp only [List.getElem_toArray, List.getElem_cons_succ, List.getElem_cons_zero, Act.put, List.setIfInBounds_toArray, List.set_cons_zero, List.set_cons_succ]
          refine wpAnyH_ready (rs := [17]) (by kernel_rfl) (by simp) (AllReadyH.cons rfl (fun K hK => ?_) AllReadyH.nil)
          refine step_call1J (by rfl) 25 image_enterS (.tmp 137) _ rfl rfl (unhide HIMR _ HBa.out) ?_
          rintro e wb ⟨vI, rfl, hIb, hbb⟩
          have HBb := hide (below_then HBa.out hbb)
          have HIb := hide hIb
          clear hbb hIb
          refine ⟨_, rfl, ?_⟩
          refine hK.out _ _ (unhide HS _ HBb.out) (fun hJb => ?_)
          clear hK K
          simp only [List.getElem_toArray, List.getElem_cons_succ, List.getElem_cons_zero, Act.put, List.setIfInBounds_toArray, List.set_cons_zero, List.set_cons_succ]
          refine wpAnyH_ready (rs := [19]) (by kernel_rfl) (by simp) (AllReadyH.cons rfl (fun K hK => ?_) AllReadyH.nil)
          refine step_call1J (by rfl) 26 rimage_enterS (.tmp 139) _ rfl rfl (unhide HRIM _ HBb.out) ?_
          rintro e wc ⟨vJ, rfl, hIc, hbc⟩
          have HBc := hide (below_then HBb.out hbc)
          have HIb2 := hide (HIb.out.below hbc)
          have HIc := hide hIc
          clear hbc hIc
          refine ⟨_, rfl, ?_⟩
          refine hK.out _ _ (unhide HS _ HBc.out) (fun hJc => ?_)
          clear hK K
          simp only [List.getElem_toArray, List.getElem_cons_succ, List.getElem_cons_zero, Act.put, List.setIfInBounds_toArray, List.set_cons_zero, List.set_cons_succ]
          refine wpAnyH_ready (rs := [20]) (by kernel_rfl) (by simp) (AllReadyH.cons rfl (fun K hK => ?_) AllReadyH.nil)
          refine step_call2J (by rfl) 24 same_enterS (.tmp 138) (.tmp 140) _ rfl rfl rfl (sameImg_calls HIb2.out HIc.out HPOS.out) ?_
          rintro e wd ⟨rfl, hbd⟩
          have HBz := hide (below_then HBc.out hbd)
          clear hbd
          refine ⟨_, rfl, ?_⟩
          refine hK.out _ _ (unhide HS _ HBz.out) (fun hJd => ?_)
          clear hK K
          simp only [List.getElem_toArray, List.getElem_cons_succ, List.getElem_cons_zero, Act.put, List.setIfInBounds_toArray, List.set_cons_zero, List.set_cons_succ]
          refine wpAnyH_take (i := 21) (v := .bool false) rfl (by kernel_rfl) (by kernel_rfl) (by kernel_rfl) (fun _ _ _ h => h) (Or.inl ⟨by rfl, fun w hSw => by obtain ⟨hS1, hS2⟩ := hSw; go_simp⟩) (by assumption) ?_
          simp only [List.getElem_toArray, List.getElem_cons_succ, List.getElem_cons_zero, Act.put, List.setIfInBounds_toArray, List.set_cons_zero, List.set_cons_succ]
          refine wpAnyH_take (i := 22) (v := .bool false) rfl (by kernel_rfl) (by kernel_rfl) (by kernel_rfl) (fun _ _ _ h => h) (Or.inl ⟨by rfl, fun w hSw => by obtain ⟨hS1, hS2⟩ := hSw; go_simp⟩) (by assumption) ?_
          simp only [List.getElem_toArray, List.getElem_cons_succ, List.getElem_cons_zero, Act.put, List.setIfInBounds_toArray, List.set_cons_zero, List.set_cons_succ]
          refine wpAnyH_done (by kernel_rfl) ?_ _
          have HRz := hide (HR12.out.below HBz.out)
          have HWz := hide (HW12.out.below HBz.out)
          go_wp2_with fail
          refine ⟨⟨2, by decide, rfl, HRz, HWz⟩, ?_⟩
          decide
        · have hmin : min k 2 = 2 := by omega
          have hmin2 : min (k + 1) 2 = 2 := by omega
          have HR12 : Hid (Rw w wr p (DQ n i (slL s) 2) pw s 2) := by have := HRw; rw [hmin] at this; exact this
          have HW12 : Hid (Wd w wr g9 (.slice ua 512 uc) s (RQ n i (slL s) 2)) := by have := HWd; rw [hmin] at this; exact this
          have hz0 : ((k : Int) == 0) = false := by simp; omega
          have hz1 : ((k : Int) == 1) = false := by simp; omega
          have hzp : (0 : Int) < (k : Int) := by omega
          have hzn : 0 < k := by omega
          have HM2 := hide hmin2
          have HK5 : Hid (k + 1 ≤ 5) := hide (by omega)
          clear HRw HWd hk h5 hk0 hk1 hmin hmin2
          go_wp2_with fail
          refine (unhide HT2 _ _ _ HR12.out).mono ?_
          rintro e wx ⟨rfl, hwx⟩
          obtain rfl := hwx.symm
          clear hwx
          go_wp2_with fail
          obtain ⟨b1, m1, d1, b2, m2, d2, Q1, Q2, Q3⟩ := HW12.out.doc
          have hrel1 := unhide HREL 2
          have HACR : Hid (∀ W, Below wr.heap.size wr W → Calls Tryd.prog 19 #[.pointer (some ⟨p, 0, none⟩)] W fun e w' => e = .returned (.agg #[.int .i64 (RQ n i (slL s) 2).rd, .int .i64 (RQ n i (slL s) 2).wt, .int .i64 (RQ n i (slL s) 2).fl]) ∧ Below W.heap.size W w') := hide (fun W hW => by have := unhide HAC W p _ (HR12.out.below hW).sn; rw [← hrel1.rd, ← hrel1.wt, ← hrel1.fl] at this; exact this)
          have HIMR : Hid (∀ W, Below wr.heap.size wr W → Calls Tryd.prog 25 #[.pointer (some ⟨p, 0, none⟩)] W fun e w' => ∃ v, e = .returned v ∧ IsBB w' v (DQ n i (slL s) 2).la ∧ Below W.heap.size W w') := hide (fun W hW => unhide HIM W p _ (HR12.out.below hW).sn)
          have HRIM : Hid (∀ W, Below wr.heap.size wr W → Calls Tryd.prog 26 #[.agg (rdC ((RQ n i (slL s) 2).n : Int) b1 m1 d1 b2 m2 d2 (RQ n i (slL s) 2).rd (RQ n i (slL s) 2).wt (RQ n i (slL s) 2).fl).toArray] W fun e w' => ∃ v, e = .returned v ∧ IsBB w' v (DQ n i (slL s) 2).la ∧ Below W.heap.size W w') := hide (fun W hW => by have := rimage_calls (n := (RQ n i (slL s) 2).n) (vb := .slice b2 m2 d2) (rd := (RQ n i (slL s) 2).rd) (wt := (RQ n i (slL s) 2).wt) (fl := (RQ n i (slL s) 2).fl) (Q2.below hW) hrel1.lok (by rw [hrel1.n]; exact HR12.out.sn.ok.hi); rw [rel_image hrel1] at this; exact this)
          have HS : Hid (∀ W, Below wr.heap.size wr W → W.rangeAt g9 3 [.int .i64 (RQ n i (slL s) 2).rd, .int .i64 (RQ n i (slL s) 2).wt, .int .i64 (RQ n i (slL s) 2).fl] ∧ W.rangeAt g9 0 (rdC ((RQ n i (slL s) 2).n : Int) b1 m1 d1 b2 m2 d2 (RQ n i (slL s) 2).rd (RQ n i (slL s) 2).wt (RQ n i (slL s) 2).fl)) := hide (fun W hW => by
            have hA := Q1.below hW
            refine ⟨fun j v hv => ?_, hA.rangeJ⟩
            rw [hA.cell]
            match j, hv with
            | 0, hv => exact hv
            | 1, hv => exact hv
            | 2, hv => exact hv)
          have HPOS : Hid (0 < (DQ n i (slL s) 2).la.length) := hide (by have := HR12.out.sn.ok.lo; omega)
          have hinfZ : (Tryd.prog.info? 44).map (·.size) = some (rdC ((RQ n i (slL s) 2).n : Int) b1 m1 d1 b2 m2 d2 (RQ n i (slL s) 2).rd (RQ n i (slL s) 2).wt (RQ n i (slL s) 2).fl).length := infoRD
          have hinfY : (Tryd.prog.info? 42).map (·.size) = some [Value.int .i64 (RQ n i (slL s) 2).rd, .int .i64 (RQ n i (slL s) 2).wt, .int .i64 (RQ n i (slL s) 2).fl].length := infoAc
          generalize rdC ((RQ n i (slL s) 2).n : Int) b1 m1 d1 b2 m2 d2 (RQ n i (slL s) 2).rd (RQ n i (slL s) 2).wt (RQ n i (slL s) 2).fl = rcZ at *
          generalize (RQ n i (slL s) 2).rd = rdz at *
          generalize (RQ n i (slL s) 2).wt = wtz at *
          generalize (RQ n i (slL s) 2).fl = flz at *
          clear Q1 Q2 Q3 hrel1
          have HBD := hide ((Below.refl wr.heap.size wr).drew)
          refine wp_region_held_drew (S := fun W => W.rangeAt g9 3 [.int .i64 rdz, .int .i64 wtz, .int .i64 flz] ∧ W.rangeAt g9 0 rcZ) (by kernel_rfl) (unhide HS _ HBD.out) (fun hHeld => ?_)
          refine wpAnyH_take (i := 0) (v := .int .i64 0) rfl (by kernel_rfl) (by kernel_rfl) (by kernel_rfl) (fun _ _ _ h => h) (Or.inl ⟨by rfl, fun w hSw => by obtain ⟨hS1, hS2⟩ := hSw; go_simp⟩) (by assumption) ?_
          simp only [List.getElem_toArray, List.getElem_cons_zero, Act.put, List.setIfInBounds_toArray, List.set_cons_zero, List.set_cons_succ]
          refine wpAnyH_take (i := 1) (v := .bool false) rfl (by kernel_rfl) (by kernel_rfl) (by kernel_rfl) (fun _ _ _ h => h) (Or.inl ⟨by rfl, fun w hSw => by obtain ⟨hS1, hS2⟩ := hSw; go_simp⟩) (by assumption) ?_
          simp only [List.getElem_toArray, List.getElem_cons_succ, List.getElem_cons_zero, Act.put, List.setIfInBounds_toArray, List.set_cons_zero, List.set_cons_succ]
          refine wpAnyH_take (i := 2) (v := .bool false) rfl (by kernel_rfl) (by kernel_rfl) (by kernel_rfl) (fun _ _ _ h => h) (Or.inl ⟨by rfl, fun w hSw => by obtain ⟨hS1, hS2⟩ := hSw; go_simp⟩) (by assumption) ?_
          simp only [List.getElem_toArray, List.getElem_cons_succ, List.getElem_cons_zero, Act.put, List.setIfInBounds_toArray, List.set_cons_zero, List.set_cons_succ]
          refine wpAnyH_take (i := 3) (v := .bool true) rfl (by kernel_rfl) (by kernel_rfl) (by kernel_rfl) (fun _ _ _ h => h) (Or.inl ⟨by rfl, fun w hSw => by obtain ⟨hS1, hS2⟩ := hSw; go_simp⟩) (by assumption) ?_
          simp only [List.getElem_toArray, List.getElem_cons_succ, List.getElem_cons_zero, Act.put, List.setIfInBounds_toArray, List.set_cons_zero, List.set_cons_succ]
          refine wpAnyH_take (i := 4) (v := .int .i64 (k : Int)) rfl (by kernel_rfl) (by kernel_rfl) (by kernel_rfl) (fun _ _ _ h => h) (Or.inl ⟨by rfl, fun w hSw => by obtain ⟨hS1, hS2⟩ := hSw; go_simp⟩) (by assumption) ?_
          simp only [List.getElem_toArray, List.getElem_cons_succ, List.getElem_cons_zero, Act.put, List.setIfInBounds_toArray, List.set_cons_zero, List.set_cons_succ]
          refine wpAnyH_take (i := 5) (v := .bool true) rfl (by kernel_rfl) (by kernel_rfl) (by kernel_rfl) (fun _ _ _ h => h) (Or.inl ⟨by rfl, fun w hSw => by obtain ⟨hS1, hS2⟩ := hSw; go_simp⟩) (by assumption) ?_
          simp only [List.getElem_toArray, List.getElem_cons_succ, List.getElem_cons_zero, Act.put, List.setIfInBounds_toArray, List.set_cons_zero, List.set_cons_succ]
          refine wpAnyH_take (i := 6) (v := .bool false) rfl (by kernel_rfl) (by kernel_rfl) (by kernel_rfl) (fun _ _ _ h => h) (Or.inl ⟨by rfl, fun w hSw => by obtain ⟨hS1, hS2⟩ := hSw; go_simp⟩) (by assumption) ?_
          simp only [List.getElem_toArray, List.getElem_cons_succ, List.getElem_cons_zero, Act.put, List.setIfInBounds_toArray, List.set_cons_zero, List.set_cons_succ]
          refine wpAnyH_take (i := 7) (v := .bool false) rfl (by kernel_rfl) (by kernel_rfl) (by kernel_rfl) (fun _ _ _ h => h) (Or.inl ⟨by rfl, fun w hSw => by obtain ⟨hS1, hS2⟩ := hSw; go_simp⟩) (by assumption) ?_
          simp only [List.getElem_toArray, List.getElem_cons_succ, List.getElem_cons_zero, Act.put, List.setIfInBounds_toArray, List.set_cons_zero, List.set_cons_succ]
          refine wpAnyH_take (i := 8) (v := .bool false) rfl (by kernel_rfl) (by kernel_rfl) (by kernel_rfl) (fun _ _ _ h => h) (Or.inl ⟨by rfl, fun w hSw => by obtain ⟨hS1, hS2⟩ := hSw; go_simp⟩) (by assumption) ?_
          simp only [List.getElem_toArray, List.getElem_cons_succ, List.getElem_cons_zero, Act.put, List.setIfInBounds_toArray, List.set_cons_zero, List.set_cons_succ]
          refine wpAnyH_take (i := 9) (v := .pointer (some ⟨p, 0, none⟩)) rfl (by kernel_rfl) (by kernel_rfl) (by kernel_rfl) (fun _ _ _ h => h) (Or.inl ⟨by rfl, fun w hSw => by obtain ⟨hS1, hS2⟩ := hSw; go_simp⟩) (by assumption) ?_
          simp only [List.getElem_toArray, List.getElem_cons_succ, List.getElem_cons_zero, Act.put, List.setIfInBounds_toArray, List.set_cons_zero, List.set_cons_succ]
          refine wpAnyH_take (i := 11) (v := .pointer (some ⟨g9, 3, none⟩)) rfl (by kernel_rfl) (by kernel_rfl) (by kernel_rfl) (fun _ _ _ h => h) (Or.inl ⟨by rfl, fun w hSw => by obtain ⟨hS1, hS2⟩ := hSw; go_simp⟩) (by assumption) ?_
          simp only [List.getElem_toArray, List.getElem_cons_succ, List.getElem_cons_zero, Act.put, List.setIfInBounds_toArray, List.set_cons_zero, List.set_cons_succ]
          refine wpAnyH_take (i := 12) (v := .agg ([Value.int .i64 rdz, .int .i64 wtz, .int .i64 flz]).toArray) rfl (by kernel_rfl) (by kernel_rfl) (by kernel_rfl) (fun _ _ _ h => h) (yieldsIf_load_mid (by rfl) _ _ rfl _ _ rfl _ _ (fun w hSw => hSw.1) Tryd.underlying42 rfl hinfY) (by assumption) ?_
          simp only [List.getElem_toArray, List.getElem_cons_succ, List.getElem_cons_zero, Act.put, List.setIfInBounds_toArray, List.set_cons_zero, List.set_cons_succ]
          refine wpAnyH_ready (rs := [10]) (by kernel_rfl) (by simp) (AllReadyH.cons rfl (fun K hK => ?_) AllReadyH.nil)
          refine step_call1J (by rfl) 19 acts_enterS (.tmp 130) _ rfl rfl (unhide HACR _ HBD.out) ?_
          rintro e wa ⟨rfl, hba⟩
          have HBa := hide (below_then HBD.out hba)
          clear hba
          refine ⟨_, rfl, ?_⟩
          refine hK.out _ _ (unhide HS _ HBa.out) (fun hJa => ?_)
          clear hK K
          simp only [List.getElem_toArray, List.getElem_cons_succ, List.getElem_cons_zero, Act.put, List.setIfInBounds_toArray, List.set_cons_zero, List.set_cons_succ]
          refine wpAnyH_take (i := 13) (v := .bool false) rfl (by kernel_rfl) (by kernel_rfl) (by kernel_rfl) (fun _ _ _ h => h) (Or.inl ⟨by rfl, fun w hSw => by obtain ⟨hS1, hS2⟩ := hSw; go_simp⟩) (by assumption) ?_
          simp only [List.getElem_toArray, List.getElem_cons_succ, List.getElem_cons_zero, Act.put, List.setIfInBounds_toArray, List.set_cons_zero, List.set_cons_succ]
          refine wpAnyH_take (i := 14) (v := .bool false) rfl (by kernel_rfl) (by kernel_rfl) (by kernel_rfl) (fun _ _ _ h => h) (Or.inl ⟨by rfl, fun w hSw => by obtain ⟨hS1, hS2⟩ := hSw; go_simp⟩) (by assumption) ?_
          simp only [List.getElem_toArray, List.getElem_cons_succ, List.getElem_cons_zero, Act.put, List.setIfInBounds_toArray, List.set_cons_zero, List.set_cons_succ]
          refine wpAnyH_take (i := 15) (v := .bool false) rfl (by kernel_rfl) (by kernel_rfl) (by kernel_rfl) (fun _ _ _ h => h) (Or.inl ⟨by rfl, fun w hSw => by obtain ⟨hS1, hS2⟩ := hSw; go_simp⟩) (by assumption) ?_
          simp only [List.getElem_toArray, List.getElem_cons_succ, List.getElem_cons_zero, Act.put, List.setIfInBounds_toArray, List.set_cons_zero, List.set_cons_succ]
          refine wpAnyH_take (i := 16) (v := .pointer (some ⟨p, 0, none⟩)) rfl (by kernel_rfl) (by kernel_rfl) (by kernel_rfl) (fun _ _ _ h => h) (Or.inl ⟨by rfl, fun w hSw => by obtain ⟨hS1, hS2⟩ := hSw; go_simp⟩) (by assumption) ?_
          simp only [List.getElem_toArray, List.getElem_cons_succ, List.getElem_cons_zero, Act.put, List.setIfInBounds_toArray, List.set_cons_zero, List.set_cons_succ]
          refine wpAnyH_take (i := 18) (v := .agg (rcZ).toArray) rfl (by kernel_rfl) (by kernel_rfl) (by kernel_rfl) (fun _ _ _ h => h) (yieldsIf_load_mid (by rfl) _ _ rfl _ _ rfl _ _ (fun w hSw => hSw.2) Tryd.underlying44 rfl hinfZ) (by assumption) ?_
          simp only [List.getElem_toArray, List.getElem_cons_succ, List.getElem_cons_zero, Act.put, List.setIfInBounds_toArray, List.set_cons_zero, List.set_cons_succ]
          refine wpAnyH_ready (rs := [17]) (by kernel_rfl) (by simp) (AllReadyH.cons rfl (fun K hK => ?_) AllReadyH.nil)
          refine step_call1J (by rfl) 25 image_enterS (.tmp 137) _ rfl rfl (unhide HIMR _ HBa.out) ?_
          rintro e wb ⟨vI, rfl, hIb, hbb⟩
          have HBb := hide (below_then HBa.out hbb)
          have HIb := hide hIb
          clear hbb hIb
          refine ⟨_, rfl, ?_⟩
          refine hK.out _ _ (unhide HS _ HBb.out) (fun hJb => ?_)
          clear hK K
          simp only [List.getElem_toArray, List.getElem_cons_succ, List.getElem_cons_zero, Act.put, List.setIfInBounds_toArray, List.set_cons_zero, List.set_cons_succ]
          refine wpAnyH_ready (rs := [19]) (by kernel_rfl) (by simp) (AllReadyH.cons rfl (fun K hK => ?_) AllReadyH.nil)
          refine step_call1J (by rfl) 26 rimage_enterS (.tmp 139) _ rfl rfl (unhide HRIM _ HBb.out) ?_
          rintro e wc ⟨vJ, rfl, hIc, hbc⟩
          have HBc := hide (below_then HBb.out hbc)
          have HIb2 := hide (HIb.out.below hbc)
          have HIc := hide hIc
          clear hbc hIc
          refine ⟨_, rfl, ?_⟩
          refine hK.out _ _ (unhide HS _ HBc.out) (fun hJc => ?_)
          clear hK K
          simp only [List.getElem_toArray, List.getElem_cons_succ, List.getElem_cons_zero, Act.put, List.setIfInBounds_toArray, List.set_cons_zero, List.set_cons_succ]
          refine wpAnyH_ready (rs := [20]) (by kernel_rfl) (by simp) (AllReadyH.cons rfl (fun K hK => ?_) AllReadyH.nil)
          refine step_call2J (by rfl) 24 same_enterS (.tmp 138) (.tmp 140) _ rfl rfl rfl (sameImg_calls HIb2.out HIc.out HPOS.out) ?_
          rintro e wd ⟨rfl, hbd⟩
          have HBz := hide (below_then HBc.out hbd)
          clear hbd
          refine ⟨_, rfl, ?_⟩
          refine hK.out _ _ (unhide HS _ HBz.out) (fun hJd => ?_)
          clear hK K
          simp only [List.getElem_toArray, List.getElem_cons_succ, List.getElem_cons_zero, Act.put, List.setIfInBounds_toArray, List.set_cons_zero, List.set_cons_succ]
          refine wpAnyH_take (i := 21) (v := .bool false) rfl (by kernel_rfl) (by kernel_rfl) (by kernel_rfl) (fun _ _ _ h => h) (Or.inl ⟨by rfl, fun w hSw => by obtain ⟨hS1, hS2⟩ := hSw; go_simp⟩) (by assumption) ?_
          simp only [List.getElem_toArray, List.getElem_cons_succ, List.getElem_cons_zero, Act.put, List.setIfInBounds_toArray, List.set_cons_zero, List.set_cons_succ]
          refine wpAnyH_take (i := 22) (v := .bool false) rfl (by kernel_rfl) (by kernel_rfl) (by kernel_rfl) (fun _ _ _ h => h) (Or.inl ⟨by rfl, fun w hSw => by obtain ⟨hS1, hS2⟩ := hSw; go_simp⟩) (by assumption) ?_
          simp only [List.getElem_toArray, List.getElem_cons_succ, List.getElem_cons_zero, Act.put, List.setIfInBounds_toArray, List.set_cons_zero, List.set_cons_succ]
          refine wpAnyH_done (by kernel_rfl) ?_ _
          have HRz := hide (HR12.out.below HBz.out)
          have HWz := hide (HW12.out.below HBz.out)
          go_wp2_with fail
          refine ⟨⟨k + 1, HK5.out, by go_num, by rw [HM2.out]; exact HRz, by rw [HM2.out]; exact HWz⟩, ?_⟩
          simp [intOf]
          have := HK5.out
          omega
end Go.Proofs.YtbgknbjpbobebaaDoor
