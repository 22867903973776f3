/- What easy and started answer. -/
import Derived.Test.YtbgknbjpbobebaaDoorRtX
import Derived.Test.YtbgknbjpbobebaaDoorRtQ
namespace Go.Proofs.YtbgknbjpbobebaaDoor
open Go.RowKit Go.Maps

/-- The slot that started writes. -/
def ez : SL := ⟨40, 8, 0, 0, 0, List.replicate 32 0, ⟨List.replicate 32 0, 10, 0⟩, ⟨List.replicate 32 0, 11, 2⟩⟩
theorem ez_ok : ez.Ok := ⟨⟨by decide, by decide⟩, ⟨by decide, by decide⟩, ⟨by decide, by decide⟩, ⟨by decide, by decide⟩, ⟨by decide, by decide⟩, by simp [ez], By8.zero 32, ⟨by simp [ez], By8.zero 32, ⟨by decide, by decide⟩, ⟨by decide, by decide⟩⟩, ⟨by simp [ez], By8.zero 32, ⟨by decide, by decide⟩, ⟨by decide, by decide⟩⟩⟩
theorem ez_may : ez.May := ⟨by decide, by decide, by decide, by decide, by decide, ⟨by decide, by decide⟩, ⟨by decide, by decide⟩, ⟨by decide, by decide⟩, ⟨by decide, by decide, by decide, by decide⟩, ⟨by decide, by decide, by decide, by decide⟩⟩
def rf0 (a b : Int) : JF := ⟨List.replicate 32 0, a, b⟩
theorem bldE1 (a b : Int) (W : World) : (Instr.build 25 #[(1, .int .i64 a), (2, .int .i64 b)]).run Tryd.prog W = .ok (.agg (jfV (rf0 a b)).toArray) W := by kernel_rfl
theorem bldE2 (W : World) : (Instr.build 27 #[(0, .int .i64 40), (1, .int .i64 8), (2, .int .i64 0), (3, .int .i64 0), (4, .int .i64 0), (6, .agg (jfV (rf0 10 0)).toArray), (7, .agg (jfV (rf0 11 2)).toArray)]).run Tryd.prog W = .ok (.agg (slV ez).toArray) W := by kernel_rfl
section
variable {ops : Array Oper} {rest : List Oper} {o : Oper} {a : Act} {Q : Exit → Act → World → Prop} {w : World}
theorem wpList_bldE1 (hgd : o.guard = none) (x y : Operand) (ho : o.op = .build 25 #[(1, x), (2, y)]) {vx vy : Int} (hx : a.eval x = .int .i64 vx) (hy : a.eval y = .int .i64 vy)
    (hk : wpList Tryd.prog ops Q rest (a.put o.dst (.agg (jfV (rf0 vx vy)).toArray)) w) : wpList Tryd.prog ops Q (o :: rest) a w := by
  refine wpList_plain hgd fun K hK => ?_
  unfold Oper.wp execOp
  simp only [ho, List.map_toArray, List.map_cons, List.map_nil, hx, hy, Sem.run_bind, bldE1, Result.andThen_ok, Sem.run_pure]
  exact hK _ _ hk
theorem wpList_bldE2 (hgd : o.guard = none) (x0 x1 x2 x3 x4 x6 x7 : Operand) (ho : o.op = .build 27 #[(0, x0), (1, x1), (2, x2), (3, x3), (4, x4), (6, x6), (7, x7)]) (h0 : a.eval x0 = .int .i64 40) (h1 : a.eval x1 = .int .i64 8) (h2 : a.eval x2 = .int .i64 0) (h3 : a.eval x3 = .int .i64 0) (h4 : a.eval x4 = .int .i64 0) (h6 : a.eval x6 = .agg (jfV (rf0 10 0)).toArray) (h7 : a.eval x7 = .agg (jfV (rf0 11 2)).toArray)
    (hk : wpList Tryd.prog ops Q rest (a.put o.dst (.agg (slV ez).toArray)) w) : wpList Tryd.prog ops Q (o :: rest) a w := by
  refine wpList_plain hgd fun K hK => ?_
  unfold Oper.wp execOp
  simp only [ho, List.map_toArray, List.map_cons, List.map_nil, h0, h1, h2, h3, h4, h6, h7, Sem.run_bind, bldE2, Result.andThen_ok, Sem.run_pure]
  exact hK _ _ hk
end
theorem wpList_loadOnS {ops : Array Oper} {rest : List Oper} {o : Oper} {a : Act} {Q : Exit → Act → World → Prop} {w : World} (hw : Region.wanted o (yielded ops a.tmps) = true) (ty : TypeId) (x : Operand) (ho : o.op = .load ty x) (b f : Nat) (hx : a.eval x = .pointer (some ⟨b, f, none⟩)) (cs : List Value) (d : TypeDesc) (hc : w.rangeAt b f cs)
    (hu : Tryd.prog.underlying ty = some d) (hd : d.isRow = true) (hi : (Tryd.prog.info? ty).map (·.size) = some cs.length) (h : wpList Tryd.prog ops Q rest (a.put o.dst (.agg cs.toArray)) w) : wpList Tryd.prog ops Q (o :: rest) a w :=
  wpList_on hw fun _ hK => wp_load_mid ty x ho b f hx cs d hc hu hd hi (hK _ _ h)
set_option maxRecDepth 100000 in
set_option maxHeartbeats 1000000 in
theorem easy_calls (w : World) : Calls Tryd.prog 55 #[.int .i64 0] w fun e w' => e = .returned (.agg (slV ez).toArray) ∧ Below w.heap.size w w' := by
  have hinf := infoSof ez_ok
  have hlen : z105.length = (slV ez).length := by rw [slV_len ez_ok]; rfl
  have hone := slV_one ez
  have HB1 := hide (jalloc_below w (.cells z105.toArray 27))
  go_enter Tryd.func55, Tryd.ntmps55
  go_wp2_with (first
    | (refine wpList_allocJ rfl 27 rfl infoSlo ?_)
    | (refine wpList_bldE1 rfl (.tmp 10) (.tmp 12) rfl (vx := 10) (vy := 0) rfl rfl ?_)
    | (refine wpList_bldE1 rfl _ _ rfl (vx := 11) (vy := 2) rfl rfl ?_)
    | (refine wpList_bldE2 rfl _ _ _ _ _ _ _ rfl rfl rfl rfl rfl rfl rfl rfl ?_; generalize jfV (rf0 10 0) = j1; generalize jfV (rf0 11 2) = j2)
    | (refine wpList_storeJ rfl (.tmp 2) (.tmp 15) 27 rfl rfl rfl (Arr.new w z105 27) hinf hlen hone ?_; intro w2 hA2 hg2)
    | fail)
  have HB2 := hide (jbelow_grown HB1.out hg2 HB1.out.size (Nat.le_refl _))
  have hA3 : Arr w2 w.heap.size 27 (slV ez) := hA2
  refine bodyPost_ret (results_rowJ rfl rfl hA3 Tryd.underlying27 rfl hinf) rfl ?_
  exact ⟨rfl, HB2.out⟩
theorem flush_nowS {D : AD} {i : Nat} (hi : i < D.la.length) (hw : (D.wr i).length < 9223372036854775807) : D.flush.now i = D.now i := by
  rw [← AD.flush_at D hi hw]
  rfl
theorem write_nowS (D : AD) (i : Nat) (s : List Int) : (D.write i s).now i = s := by
  simp [AD.now, AD.write, updF]
theorem write_nowO (D : AD) {i j : Nat} (s : List Int) (h : j ≠ i) : (D.write i s).now j = D.now j := by
  simp [AD.now, AD.write, updF, h]
def D40 : AD := (zeroD 40).write 0 (slL ez)
theorem d40_la : D40.la.length = 40 := by simp [D40, AD.write, zeroD]
theorem d40_wr (i : Nat) : (D40.wr i).length ≤ 1 := by
  simp only [D40, AD.write, updF, zeroD]
  split <;> simp
theorem zeroD_now (n i : Nat) : (zeroD n).now i = zsec := by
  simp only [AD.now, zeroD]
  rw [List.getD_eq_getElem?_getD, List.getElem?_replicate]
  split <;> rfl
theorem zsec_noneS : decS zsec = none := decS_head (by
  unfold zsec
  rw [List.getElem?_replicate, if_pos (by decide)]
  decide)
theorem ez_counts : cntS 40 D40.flush.now = some ez := by
  have h0 : D40.flush.now 0 = slL ez := by
    rw [flush_nowS (by rw [d40_la]; decide) (by have := d40_wr 0; omega)]
    exact write_nowS _ _ _
  have h1 : D40.flush.now 1 = zsec := by
    rw [flush_nowS (by rw [d40_la]; decide) (by have := d40_wr 1; omega)]
    exact (write_nowO _ _ (by decide)).trans (zeroD_now 40 1)
  show newer (newer none (sndO 40 (D40.flush.now 0) 0)) (sndO 40 (D40.flush.now 1) 1) = some ez
  have q0 : sndO 40 (slL ez) 0 = some ez := sndO_yes (decS_sl ez_ok ez_may) rfl rfl
  rw [h0, h1, sndO_none zsec_noneS, q0]
  rfl
set_option maxRecDepth 100000 in
set_option maxHeartbeats 4000000 in
theorem started_calls18 {w : World} (ht : Tab w) : Calls Tryd.prog 28 #[] w fun e w' => e = .returned (.bool true) ∧ Below w.heap.size w w' := by
  have HNW := hide (sn_new (n := 40) (Below.refl w.heap.size w) (by decide) (by decide))
  have HEZ := hide easy_calls
  have HWN : Hid (∀ W p, Sn w W p (zeroD 40) → Calls Tryd.prog 22 #[.pointer (some ⟨p, 0, none⟩), .agg (slV ez).toArray] W fun e w' => ∃ pw, e = .returned (.tuple #[.pointer (some ⟨pw, 0, none⟩), .int .i64 0]) ∧ Rw w w' p (zeroD 40) pw ez 0 ∧ Below W.heap.size W w') := hide (fun W p hS => (newW_calls hS ez_ok).mono fun e w' ⟨h1, h2⟩ => by
    rcases h1 with ⟨hn, _⟩ | ⟨_, _, pw, rfl, hlo, hA⟩
    · exact absurd ⟨ez_may, by simp [zeroD, ez]⟩ hn
    · exact ⟨pw, rfl, ⟨hS.below h2, hA, Nat.le_trans hS.be.size hlo⟩, h2⟩)
  have HS1 : Hid (∀ W p pw, Rw w W p (zeroD 40) pw ez 0 → Calls Tryd.prog 23 #[.pointer (some ⟨pw, 0, none⟩)] W fun e w' => e = .returned (.tuple #[.bool false, .int .i64 0]) ∧ Rw w w' p D40 pw ez 1 ∧ Cj TWr W w') := hide (fun W p pw h => wstep_zero (i := 0) ez_ok ez_may ht h rfl (by simp [zeroD]) (by decide) (by decide) (by simp [zeroD]))
  have HS2 : Hid (∀ W p pw, Rw w W p D40 pw ez 1 → Calls Tryd.prog 23 #[.pointer (some ⟨pw, 0, none⟩)] W fun e w' => e = .returned (.tuple #[.bool true, .int .i64 0]) ∧ Rw w w' p D40.flush pw ez 2 ∧ Cj TWr W w') := hide (fun W p pw h => wstep_one ez_ok h (fun i => by have := d40_wr i; omega) (by decide) (by decide))
  have HRD : Hid (∀ W p, Sn w W p D40.flush → Calls Tryd.prog 20 #[.pointer (some ⟨p, 0, none⟩)] W fun e w' => e = .returned (.tuple #[.agg (slV ez).toArray, .int .i64 0]) ∧ Sn w w' p (D40.flush.sds 2) ∧ Cj TDk W w') := hide (fun W p h => by
    have := sread_calls h ht (by decide) (by decide)
    rw [show D40.flush.la.length = 40 from (AD.laAfter_len D40 _ _).trans d40_la, ez_counts] at this
    exact this)
  have hinf := infoSof ez_ok
  have hlen : z105.length = (slV ez).length := by rw [slV_len ez_ok]; rfl
  have hone := slV_one ez
  have heq : ∀ W, (binOp .eql 27 (.agg (slV ez).toArray) (.agg (slV ez).toArray)).run Tryd.prog W = .ok (.bool true) W := fun W => by rw [slot_eql ez_ok ez_ok, slEq_refl]
  have hgd := fun op x y xs ys W => slot_guard op x y xs ys W
  generalize slV ez = cs1 at *
  generalize D40 = DD at *
  generalize zeroD 40 = D0 at *
  clear ht
  go_enter Tryd.func28, Tryd.ntmps28
  go_wp2_with fail
  refine (unhide HNW).mono ?_
  rintro e w1 ⟨p, rfl, hS1, _⟩
  have HSN1 := hide hS1
  clear HNW hS1
  go_wp2_with fail
  refine (unhide HEZ _).mono ?_
  rintro e w2 ⟨rfl, hb2⟩
  have HSN2 := hide (HSN1.out.below hb2)
  have HX : Hid (∀ w3, (w2.alloc (.cells z105.toArray 27)).grownBy w3 (some w2.heap.size) → Sn w w3 p D0) := hide (fun w3 hg3 => by
    have hba := jalloc_below w2 (.cells z105.toArray 27)
    exact HSN2.out.below (jbelow_grown hba hg3 hba.size (Nat.le_refl _)))
  clear HEZ hb2 HSN1
  go_wp2_with (first
    | (refine wpList_allocJ rfl 27 rfl infoSlo ?_)
    | (refine wpList_storeJ rfl (.tmp 3) (.tmp 12) 27 rfl rfl rfl (Arr.new w2 z105 27) hinf hlen hone ?_; intro w3 hA3 hg3
       have HSN3 := hide (unhide HX w3 hg3)
       have hrg := hA3.rangeJ
       have HA3 := hide hA3
       clear hA3 hg3 HX)
    | (refine wpList_loadJ rfl 27 (.tmp 3) rfl _ 0 rfl cs1 _ hrg Tryd.underlying27 rfl hinf ?_)
    | fail)
  generalize w2.heap.size = g3 at *
  refine (unhide HWN _ _ HSN3.out).mono ?_
  rintro e w4 ⟨pw, rfl, hR4, hb4⟩
  have HA4 := hide (HA3.out.below hb4)
  have HR4 := hide hR4
  clear HWN HSN3 hrg HA3 hR4 hb4 HSN2
  go_wp2_with fail
  refine (unhide HS1 _ _ _ HR4.out).mono ?_
  rintro e w5 ⟨rfl, hR5, hC5⟩
  have HA5 := hide (HA4.out.cj hC5 twr_slot)
  have HR5 := hide hR5
  clear HS1 HR4 hR5 HA4 hC5
  go_wp2_with fail
  refine (unhide HS2 _ _ _ HR5.out).mono ?_
  rintro e w6 ⟨rfl, hR6, hC6⟩
  have HA6 := hide (HA5.out.cj hC6 twr_slot)
  have HR6 := hide hR6
  clear HS2 HR5 hR6 HA5 hC6
  go_wp2_with fail
  refine (unhide HRD _ _ HR6.out.sn).mono ?_
  rintro e w7 ⟨rfl, hS7, hC7⟩
  have hA7 := HA6.out.cj hC7 tdk_slot
  have HBW := hide hS7.be
  have HX : Hid (∀ w8, Arr w8 w7.heap.size 27 cs1 → (w7.alloc (.cells z105.toArray 27)).grownBy w8 (some w7.heap.size) → w8.rangeAt w7.heap.size 0 cs1 ∧ w8.rangeAt g3 0 cs1 ∧ Below w.heap.size w w8) := hide (fun w8 hA8 hg8 => by
    have hba := jalloc_below w7 (.cells z105.toArray 27)
    have hb8 := jbelow_grown hba hg8 hba.size (Nat.le_refl _)
    exact ⟨hA8.rangeJ, (hA7.below hb8).rangeJ, below_then HBW.out hb8⟩)
  clear HRD HR6 hS7 hC7 HA6 hA7
  go_wp2_with (first
    | (refine wpList_allocJ rfl 27 rfl infoSlo ?_)
    | (refine wpList_storeJ rfl (.tmp 6) (.tmp 36) 27 rfl rfl rfl (Arr.new w7 z105 27) hinf hlen hone ?_; intro w8 hA8 hg8
       obtain ⟨hr1, hr2, hb8⟩ := unhide HX w8 hA8 hg8
       have HB8 := hide hb8
       clear hA8 hg8 hb8 HX)
    | (refine wpList_loadOnS (by rfl) 27 (.tmp 6) rfl _ 0 rfl cs1 _ hr1 Tryd.underlying27 rfl hinf ?_)
    | (refine wpList_loadOnS (by rfl) 27 (.tmp 3) rfl _ 0 rfl cs1 _ hr2 Tryd.underlying27 rfl hinf ?_)
    | fail)
  go_ret
  exact ⟨rfl, HB8.out⟩
end Go.Proofs.YtbgknbjpbobebaaDoor
