/- The document's Same. -/
import Derived.Test.YtpklbchbldipnabDoorNAg
namespace Go.Proofs.YtpklbchbldipnabDoor
open Go.RowKit Go.Maps Classical

theorem str_dec (x y : ByteArray) : (x.toList == y.toList) = decide (x = y) := by
  rw [ByteArray.toList_eq, ByteArray.toList_eq]
  by_cases h : x = y
  · subst h; simp
  · rw [decide_eq_false h]
    simp only [beq_eq_false_iff_ne, ne_eq]
    exact fun e => h (Go.WideShapes.bytes_inj e)
def refC (e : Ent) : List Value := e.hash.map (Value.int .u8) ++ [.int .i64 e.fi, .int .i64 e.ln]
theorem part_row {t : TypeId} {d : TypeDesc} {cs : List Value} {o n : Nat} (hu : Tryd.prog.underlying t = some d) (hd : d.isRow = true) (hi : (Tryd.prog.info? t).map (·.size) = some n) (W : World) : (part t cs.toArray o).run Tryd.prog W = .ok (.agg ((cs.drop o).take n).toArray) W := by
  have hagg : (isAgg t).run Tryd.prog W = .ok true W := by
    unfold isAgg
    rw [Sem.run_bind, run_underlying hu W]
    cases d <;> simp_all
  cases hq : Tryd.prog.info? t with
  | none => simp [hq] at hi
  | some i =>
    have hs : i.size = n := by simpa [hq] using hi
    simp [part, Sem.run_bind, hagg, sizeOf, typeInfo, hq, hs]
theorem part_cell {t : TypeId} {d : TypeDesc} {cs : List Value} {o : Nat} {v : Value} (hu : Tryd.prog.underlying t = some d) (hd : d.isRow = false) (hc : cs[o]? = some v) (W : World) : (part t cs.toArray o).run Tryd.prog W = .ok v W := by
  have hagg : (isAgg t).run Tryd.prog W = .ok false W := by
    unfold isAgg
    rw [Sem.run_bind, run_underlying hu W]
    cases d <;> simp_all
  simp [part, Sem.run_bind, hagg, hc]
theorem infoRz : (Tryd.prog.info? 36).map (·.size) = some 34 := by kernel_rfl
theorem ref_equal {x y : Ent} (hx : EntOk x) (hy : EntOk y) (W : World) : (Op.equalIn 9999 36 (.agg (refC x).toArray) (.agg (refC y).toArray)).run Tryd.prog W = .ok (decide (x.hash = y.hash) && decide (x.fi = y.fi) && decide (x.ln = y.ln)) W := by
  have ui := Tryd.underlying3
  have uk := Tryd.underlying32
  have lx := hx.hash.1
  have ly := hy.hash.1
  rw [run_equalIn_struct W 9998 36 _ _ (by kernel_rfl) (by kernel_rfl)]
  have q1 : ∀ (a b : Int) (W : World), (Op.equalIn 9998 3 (.int .i64 a) (.int .i64 b)).run Tryd.prog W = .ok (a == b) W := fun a b W => run_equalIn_int W 9997 3 .i64 .i64 a b ui
  have q2 := fun W => run_equalIn_ints (P := Tryd.prog) W 9996 .u8 32 5 32 uk Tryd.underlying5 size8 x.hash y.hash lx ly
  have px0 := fun W => part_row (cs := refC x) (o := 0) uk rfl infoKz W
  have py0 := fun W => part_row (cs := refC y) (o := 0) uk rfl infoKz W
  have ex : ((refC x).drop 0).take 32 = x.hash.map (Value.int .u8) := by unfold refC; rw [List.drop_zero]; exact List.take_left' (by simp [lx])
  have ey : ((refC y).drop 0).take 32 = y.hash.map (Value.int .u8) := by unfold refC; rw [List.drop_zero]; exact List.take_left' (by simp [ly])
  rw [ex] at px0
  rw [ey] at py0
  have px1 := fun W => part_cell (cs := refC x) (o := 32) (v := .int .i64 x.fi) ui rfl (by unfold refC; rw [List.getElem?_append_right (by simp [lx])]; simp [lx]) W
  have py1 := fun W => part_cell (cs := refC y) (o := 32) (v := .int .i64 y.fi) ui rfl (by unfold refC; rw [List.getElem?_append_right (by simp [ly])]; simp [ly]) W
  have px2 := fun W => part_cell (cs := refC x) (o := 33) (v := .int .i64 x.ln) ui rfl (by unfold refC; rw [List.getElem?_append_right (by simp [lx])]; simp [lx]) W
  have py2 := fun W => part_cell (cs := refC y) (o := 33) (v := .int .i64 y.ln) ui rfl (by unfold refC; rw [List.getElem?_append_right (by simp [ly])]; simp [ly]) W
  simp only [Program.fieldsOf, Tryd.underlying36]
  generalize (refC x).toArray = cx at *
  generalize (refC y).toArray = cy at *
  generalize hk : decide (x.hash = y.hash) = bk at *
  by_cases h2 : x.fi = y.fi <;> by_cases h3 : x.ln = y.ln <;> cases bk <;> simp [Op.eqFields, px0, py0, px1, py1, px2, py2, q1, q2, h2, h3]
theorem en_equal {x y : Ent} (hx : EntOk x) (hy : EntOk y) (W : World) : (Op.equalIn 10000 38 (.agg (enV x).toArray) (.agg (enV y).toArray)).run Tryd.prog W = .ok (decide (x = y)) W := by
  have us := Tryd.underlying9
  have ub := Tryd.underlying4
  have uk := Tryd.underlying32
  have ur := Tryd.underlying36
  have lx := hx.key.1
  have ly := hy.key.1
  rw [run_equalIn_struct W 9999 38 _ _ (by kernel_rfl) (by kernel_rfl)]
  have q1 : ∀ (xt yt : ByteArray) (W : World), (Op.equalIn 9999 9 (.string xt) (.string yt)).run Tryd.prog W = .ok (decide (xt = yt)) W := fun xt yt W => (run_equalIn_string W 9998 9 xt yt us).trans (by rw [str_dec])
  have q2 : ∀ (a b : Bool) (W : World), (Op.equalIn 9999 4 (.bool a) (.bool b)).run Tryd.prog W = .ok (a == b) W := fun a b W => run_equalIn_bool W 9998 4 a b ub
  have q3 := fun W => run_equalIn_ints (P := Tryd.prog) W 9997 .u8 32 5 32 uk Tryd.underlying5 size8 x.key y.key lx ly
  have q4 := ref_equal hx hy
  have px0 := fun W => part_cell (cs := enV x) (o := 0) (v := .string (mkS x.nm)) us rfl rfl W
  have py0 := fun W => part_cell (cs := enV y) (o := 0) (v := .string (mkS y.nm)) us rfl rfl W
  have px1 := fun W => part_cell (cs := enV x) (o := 1) (v := .bool x.dir) ub rfl rfl W
  have py1 := fun W => part_cell (cs := enV y) (o := 1) (v := .bool y.dir) ub rfl rfl W
  have px2 := fun W => part_row (cs := enV x) (o := 2) uk rfl infoKz W
  have py2 := fun W => part_row (cs := enV y) (o := 2) uk rfl infoKz W
  have px3 := fun W => part_row (cs := enV x) (o := 34) ur rfl infoRz W
  have py3 := fun W => part_row (cs := enV y) (o := 34) ur rfl infoRz W
  have e2 : ∀ {e : Ent}, e.key.length = 32 → ((enV e).drop 2).take 32 = e.key.map (Value.int .u8) := fun h => by
    unfold enV
    show List.take 32 (_ ++ _) = _
    exact List.take_left' (by simp [h])
  have e3 : ∀ {e : Ent}, EntOk e → ((enV e).drop 34).take 34 = refC e := fun {e} h => by
    unfold enV
    show List.take 34 (List.drop 32 (_ ++ _)) = _
    rw [List.drop_left' (by simp [h.key.1]), List.take_of_length_le (by simp [h.hash.1])]
    rfl
  rw [e2 lx] at px2
  rw [e2 ly] at py2
  rw [e3 hx] at px3
  rw [e3 hy] at py3
  have hd : decide (x = y) = (decide (mkS x.nm = mkS y.nm) && (x.dir == y.dir) && decide (x.key = y.key) && (decide (x.hash = y.hash) && decide (x.fi = y.fi) && decide (x.ln = y.ln))) := by
    rw [mkS_eq hx.nm hy.nm, Bool.eq_iff_iff]
    obtain ⟨a1, a2, a3, a4, a5, a6⟩ := x
    obtain ⟨b1, b2, b3, b4, b5, b6⟩ := y
    simp [and_assoc]
  rw [hd]
  simp only [Program.fieldsOf, Tryd.underlying38]
  have r1 := q1 (mkS x.nm) (mkS y.nm)
  have r2 := q2 x.dir y.dir
  clear q1 q2 hd e2 e3
  generalize (enV x).toArray = cx at *
  generalize (enV y).toArray = cy at *
  generalize decide (mkS x.nm = mkS y.nm) = b1 at *
  generalize hb2 : (x.dir == y.dir) = b2 at *
  generalize decide (x.key = y.key) = b3 at *
  generalize (decide (x.hash = y.hash) && decide (x.fi = y.fi) && decide (x.ln = y.ln)) = b4 at *
  cases b1 <;> cases b2 <;> cases b3 <;> cases b4 <;> simp [Op.eqFields, px0, py0, px1, py1, px2, py2, px3, py3, r1, r2, q3, q4]
theorem en_neq {x y : Ent} (hx : EntOk x) (hy : EntOk y) (W : World) : (binOp .neq 38 (.agg (enV x).toArray) (.agg (enV y).toArray)).run Tryd.prog W = .ok (.bool (!decide (x = y))) W := by
  rw [run_neq_struct, en_equal hx hy]; rfl
theorem en_eql {x y : Ent} (hx : EntOk x) (hy : EntOk y) (W : World) : (binOp .eql 38 (.agg (enV x).toArray) (.agg (enV y).toArray)).run Tryd.prog W = .ok (.bool (decide (x = y))) W := by
  rw [run_eql_struct, en_equal hx hy]; rfl
theorem en_guard (op : BinOp) (x y : Operand) (xs ys : Array Value) (w : World) : (eqGuard op 38 x y (.agg xs) (.agg ys)).run Tryd.prog w = .ok () w := run_eqGuard_agg w op 38 x y xs ys (by kernel_rfl)
theorem en_all {a b : List Ent} (hl : a.length = b.length) (h : ∀ j, j < a.length → a.getD j .nul = b.getD j .nul) : a = b := by
  refine List.ext_getElem hl fun j h1 h2 => ?_
  have := h j h1
  rw [List.getD_eq_getElem?_getD, List.getD_eq_getElem?_getD, List.getElem?_eq_getElem h1, List.getElem?_eq_getElem h2] at this
  exact this
set_option maxRecDepth 100000 in
set_option maxHeartbeats 4000000 in
theorem esame_calls {va vb : Value} {la lb : List Ent} {w : World} (ha : IsEn w va la) (hb : IsEn w vb lb) : Calls Tryd.prog 10 #[va, vb] w fun e w' => e = .returned (.bool (decide (la = lb))) ∧ Below w.heap.size w w' := by
  obtain ⟨aa, ca, rfl⟩ := ha.shape
  obtain ⟨ab, cb, rfl⟩ := hb.shape
  have hla := ha.lenEq.2
  have hlb := hb.lenEq.2
  obtain ⟨q, hq⟩ : ∃ q, q = decide (la = lb) := ⟨_, rfl⟩
  have HQ := hide hq
  rw [← hq]
  clear hq
  obtain ⟨n, hn⟩ : ∃ n, n = la.length := ⟨_, rfl⟩
  obtain ⟨m, hm⟩ : ∃ m, m = lb.length := ⟨_, rfl⟩
  rw [← hn] at hla ha ⊢
  rw [← hm] at hlb hb ⊢
  have HN := hide hn
  have HM := hide hm
  have HA := hide ha
  have HB := hide hb
  clear hn hm ha hb
  by_cases hnm : n = m
  · subst hnm
    go_enter Tryd.func10, Tryd.ntmps10
    go_wp2_with fail
    go_loopw [5] (fun iv W => ∃ (j : Nat), j ≤ n ∧ iv = .int .i64 (j : Int) ∧ Below w.heap.size w W ∧ Hid (∀ k, k < j → la.getD k .nul = lb.getD k .nul)) (fun i _ => n - (intOf i).toNat)
    case atStart => exact ⟨0, by omega, rfl, Below.refl _ _, fun k hk => absurd hk (by omega)⟩
    case round =>
      obtain ⟨j, hjn, rfl, hbw, HJ⟩ := hrel
      by_cases hlt : j < n
      · obtain ⟨b1, o1, rfl, hr1⟩ := HA.out.spot (by omega)
        obtain ⟨b2, o2, rfl, hr2⟩ := HB.out.spot (by omega)
        have hlti : (j : Int) < (n : Int) := by omega
        have hxk := (en_get (P := EnOk) HA.out.ok (show j < la.length by rw [← HN.out]; exact hlt)).ok
        have hyk := (en_get (P := EnOk) HB.out.ok (show j < lb.length by rw [← HM.out]; exact hlt)).ok
        have HR1 : Hid (∀ W, Below wr.heap.size wr W → W.rangeAt b1 (o1 + j * 68) (enV (la.getD j .nul))) := fun W hW => range_kept (range_kept (hr1 j hlt) hbw) hW
        have HR2 : Hid (∀ W, Below wr.heap.size wr W → W.rangeAt b2 (o2 + j * 68) (enV (lb.getD j .nul))) := fun W hW => range_kept (range_kept (hr2 j hlt) hbw) hW
        have hnq := en_neq hxk hyk
        have hgd := en_guard .neq
        have HIX := hide (infoEof hxk)
        have HIY := hide (infoEof hyk)
        by_cases hxy : la.getD j .nul = lb.getD j .nul
        · have HJ2 : Hid (∀ k, k < j + 1 → la.getD k .nul = lb.getD k .nul) := fun k hk => by
            by_cases e : k = j
            · subst e; exact hxy
            · exact unhide HJ k (by omega)
          rw [decide_eq_true hxy] at hnq
          generalize enV (la.getD j .nul) = cx at *
          generalize enV (lb.getD j .nul) = cy at *
          clear hxy hr1 hr2 hxk hyk
          go_wp2_with fail
          refine wp_region_held_drew (S := fun W => W.rangeAt b1 (o1 + j * 68) cx ∧ W.rangeAt b2 (o2 + j * 68) cy) (by kernel_rfl) (⟨unhide HR1 _ (Below.refl _ _).drew, unhide HR2 _ (Below.refl _ _).drew⟩) (fun hHeld => ?_)
          refine wpAnyH_take (i := 0) (v := .slice (some ⟨b1, o1, none⟩) n ca) rfl (by kernel_rfl) (by kernel_rfl) (by kernel_rfl) (fun _ _ _ h => h) (Or.inl ⟨by rfl, fun w hSw => by obtain ⟨hS1, hS2⟩ := hSw; go_simp⟩) (by assumption) ?_
          simp only [List.getElem_toArray, List.getElem_cons_zero, Act.put, List.setIfInBounds_toArray, List.set_cons_zero, List.set_cons_succ]
          refine wpAnyH_take (i := 1) (v := .int .i64 (j : Int)) rfl (by kernel_rfl) (by kernel_rfl) (by kernel_rfl) (fun _ _ _ h => h) (Or.inl ⟨by rfl, fun w hSw => by obtain ⟨hS1, hS2⟩ := hSw; go_simp⟩) (by assumption) ?_
          simp only [List.getElem_toArray, List.getElem_cons_succ, List.getElem_cons_zero, Act.put, List.setIfInBounds_toArray, List.set_cons_zero, List.set_cons_succ]
          refine wpAnyH_take (i := 2) (v := .pointer (some ⟨b1, o1 + j * 68, none⟩)) rfl (by kernel_rfl) (by kernel_rfl) (by kernel_rfl) (fun _ _ _ h => h) (Or.inl ⟨by rfl, fun w hSw => by obtain ⟨hS1, hS2⟩ := hSw; go_simp⟩) (by assumption) ?_
          simp only [List.getElem_toArray, List.getElem_cons_succ, List.getElem_cons_zero, Act.put, List.setIfInBounds_toArray, List.set_cons_zero, List.set_cons_succ]
          refine wpAnyH_take (i := 3) (v := .agg (cx).toArray) rfl (by kernel_rfl) (by kernel_rfl) (by kernel_rfl) (fun _ _ _ h => h) (yieldsIf_load_mid (by rfl) _ _ rfl _ _ rfl _ _ (fun w hSw => hSw.1) Tryd.underlying38 rfl HIX.out) (by assumption) ?_
          simp only [List.getElem_toArray, List.getElem_cons_succ, List.getElem_cons_zero, Act.put, List.setIfInBounds_toArray, List.set_cons_zero, List.set_cons_succ]
          refine wpAnyH_take (i := 4) (v := .slice (some ⟨b2, o2, none⟩) n cb) rfl (by kernel_rfl) (by kernel_rfl) (by kernel_rfl) (fun _ _ _ h => h) (Or.inl ⟨by rfl, fun w hSw => by obtain ⟨hS1, hS2⟩ := hSw; go_simp⟩) (by assumption) ?_
          simp only [List.getElem_toArray, List.getElem_cons_succ, List.getElem_cons_zero, Act.put, List.setIfInBounds_toArray, List.set_cons_zero, List.set_cons_succ]
          refine wpAnyH_take (i := 5) (v := .int .i64 (j : Int)) rfl (by kernel_rfl) (by kernel_rfl) (by kernel_rfl) (fun _ _ _ h => h) (Or.inl ⟨by rfl, fun w hSw => by obtain ⟨hS1, hS2⟩ := hSw; go_simp⟩) (by assumption) ?_
          simp only [List.getElem_toArray, List.getElem_cons_succ, List.getElem_cons_zero, Act.put, List.setIfInBounds_toArray, List.set_cons_zero, List.set_cons_succ]
          refine wpAnyH_take (i := 6) (v := .pointer (some ⟨b2, o2 + j * 68, none⟩)) rfl (by kernel_rfl) (by kernel_rfl) (by kernel_rfl) (fun _ _ _ h => h) (Or.inl ⟨by rfl, fun w hSw => by obtain ⟨hS1, hS2⟩ := hSw; go_simp⟩) (by assumption) ?_
          simp only [List.getElem_toArray, List.getElem_cons_succ, List.getElem_cons_zero, Act.put, List.setIfInBounds_toArray, List.set_cons_zero, List.set_cons_succ]
          refine wpAnyH_take (i := 7) (v := .agg (cy).toArray) rfl (by kernel_rfl) (by kernel_rfl) (by kernel_rfl) (fun _ _ _ h => h) (yieldsIf_load_mid (by rfl) _ _ rfl _ _ rfl _ _ (fun w hSw => hSw.2) Tryd.underlying38 rfl HIY.out) (by assumption) ?_
          simp only [List.getElem_toArray, List.getElem_cons_succ, List.getElem_cons_zero, Act.put, List.setIfInBounds_toArray, List.set_cons_zero, List.set_cons_succ]
          refine wpAnyH_take (i := 8) (v := .bool false) rfl (by kernel_rfl) (by kernel_rfl) (by kernel_rfl) (fun _ _ _ h => h) (Or.inl ⟨by rfl, fun w hSw => by obtain ⟨hS1, hS2⟩ := hSw; go_simp⟩) (by assumption) ?_
          simp only [List.getElem_toArray, List.getElem_cons_succ, List.getElem_cons_zero, Act.put, List.setIfInBounds_toArray, List.set_cons_zero, List.set_cons_succ]
          refine wpAnyH_done (by kernel_rfl) ?_ _
          go_wp2
          exact ⟨⟨j + 1, by omega, by go_num, hbw.drew, HJ2⟩, by simp [intOf]; omega⟩
        · have HE : Hid (q = false) := by
            show _ = _
            rw [HQ.out, decide_eq_false fun e => hxy (by rw [e])]
          rw [decide_eq_false hxy] at hnq
          generalize enV (la.getD j .nul) = cx at *
          generalize enV (lb.getD j .nul) = cy at *
          clear hxy hr1 hr2 hxk hyk
          go_wp2_with fail
          refine wp_region_held_drew (S := fun W => W.rangeAt b1 (o1 + j * 68) cx ∧ W.rangeAt b2 (o2 + j * 68) cy) (by kernel_rfl) (⟨unhide HR1 _ (Below.refl _ _).drew, unhide HR2 _ (Below.refl _ _).drew⟩) (fun hHeld => ?_)
          refine wpAnyH_take (i := 0) (v := .slice (some ⟨b1, o1, none⟩) n ca) rfl (by kernel_rfl) (by kernel_rfl) (by kernel_rfl) (fun _ _ _ h => h) (Or.inl ⟨by rfl, fun w hSw => by obtain ⟨hS1, hS2⟩ := hSw; go_simp⟩) (by assumption) ?_
          simp only [List.getElem_toArray, List.getElem_cons_zero, Act.put, List.setIfInBounds_toArray, List.set_cons_zero, List.set_cons_succ]
          refine wpAnyH_take (i := 1) (v := .int .i64 (j : Int)) rfl (by kernel_rfl) (by kernel_rfl) (by kernel_rfl) (fun _ _ _ h => h) (Or.inl ⟨by rfl, fun w hSw => by obtain ⟨hS1, hS2⟩ := hSw; go_simp⟩) (by assumption) ?_
          simp only [List.getElem_toArray, List.getElem_cons_succ, List.getElem_cons_zero, Act.put, List.setIfInBounds_toArray, List.set_cons_zero, List.set_cons_succ]
          refine wpAnyH_take (i := 2) (v := .pointer (some ⟨b1, o1 + j * 68, none⟩)) rfl (by kernel_rfl) (by kernel_rfl) (by kernel_rfl) (fun _ _ _ h => h) (Or.inl ⟨by rfl, fun w hSw => by obtain ⟨hS1, hS2⟩ := hSw; go_simp⟩) (by assumption) ?_
          simp only [List.getElem_toArray, List.getElem_cons_succ, List.getElem_cons_zero, Act.put, List.setIfInBounds_toArray, List.set_cons_zero, List.set_cons_succ]
          refine wpAnyH_take (i := 3) (v := .agg (cx).toArray) rfl (by kernel_rfl) (by kernel_rfl) (by kernel_rfl) (fun _ _ _ h => h) (yieldsIf_load_mid (by rfl) _ _ rfl _ _ rfl _ _ (fun w hSw => hSw.1) Tryd.underlying38 rfl HIX.out) (by assumption) ?_
          simp only [List.getElem_toArray, List.getElem_cons_succ, List.getElem_cons_zero, Act.put, List.setIfInBounds_toArray, List.set_cons_zero, List.set_cons_succ]
          refine wpAnyH_take (i := 4) (v := .slice (some ⟨b2, o2, none⟩) n cb) rfl (by kernel_rfl) (by kernel_rfl) (by kernel_rfl) (fun _ _ _ h => h) (Or.inl ⟨by rfl, fun w hSw => by obtain ⟨hS1, hS2⟩ := hSw; go_simp⟩) (by assumption) ?_
          simp only [List.getElem_toArray, List.getElem_cons_succ, List.getElem_cons_zero, Act.put, List.setIfInBounds_toArray, List.set_cons_zero, List.set_cons_succ]
          refine wpAnyH_take (i := 5) (v := .int .i64 (j : Int)) rfl (by kernel_rfl) (by kernel_rfl) (by kernel_rfl) (fun _ _ _ h => h) (Or.inl ⟨by rfl, fun w hSw => by obtain ⟨hS1, hS2⟩ := hSw; go_simp⟩) (by assumption) ?_
          simp only [List.getElem_toArray, List.getElem_cons_succ, List.getElem_cons_zero, Act.put, List.setIfInBounds_toArray, List.set_cons_zero, List.set_cons_succ]
          refine wpAnyH_take (i := 6) (v := .pointer (some ⟨b2, o2 + j * 68, none⟩)) rfl (by kernel_rfl) (by kernel_rfl) (by kernel_rfl) (fun _ _ _ h => h) (Or.inl ⟨by rfl, fun w hSw => by obtain ⟨hS1, hS2⟩ := hSw; go_simp⟩) (by assumption) ?_
          simp only [List.getElem_toArray, List.getElem_cons_succ, List.getElem_cons_zero, Act.put, List.setIfInBounds_toArray, List.set_cons_zero, List.set_cons_succ]
          refine wpAnyH_take (i := 7) (v := .agg (cy).toArray) rfl (by kernel_rfl) (by kernel_rfl) (by kernel_rfl) (fun _ _ _ h => h) (yieldsIf_load_mid (by rfl) _ _ rfl _ _ rfl _ _ (fun w hSw => hSw.2) Tryd.underlying38 rfl HIY.out) (by assumption) ?_
          simp only [List.getElem_toArray, List.getElem_cons_succ, List.getElem_cons_zero, Act.put, List.setIfInBounds_toArray, List.set_cons_zero, List.set_cons_succ]
          refine wpAnyH_take (i := 8) (v := .bool true) rfl (by kernel_rfl) (by kernel_rfl) (by kernel_rfl) (fun _ _ _ h => h) (Or.inl ⟨by rfl, fun w hSw => by obtain ⟨hS1, hS2⟩ := hSw; go_simp⟩) (by assumption) ?_
          simp only [List.getElem_toArray, List.getElem_cons_succ, List.getElem_cons_zero, Act.put, List.setIfInBounds_toArray, List.set_cons_zero, List.set_cons_succ]
          refine wpAnyH_done (by kernel_rfl) ?_ _
          go_wp2
          go_ret
          exact ⟨by rw [HE.out]; rfl, hbw.drew⟩
      · have HE : Hid (q = true) := by
          show _ = _
          rw [HQ.out, decide_eq_true (en_all (by rw [← HN.out, ← HM.out]) fun k hk => unhide HJ k (by rw [← HN.out] at hk; omega))]
        have hlti : ¬ (j : Int) < (n : Int) := by omega
        go_wp2
        go_ret
        exact ⟨by rw [HE.out]; rfl, hbw⟩
  · have HE : Hid (q = false) := by
      show _ = _
      rw [HQ.out, decide_eq_false fun e => hnm (by rw [HN.out, HM.out, e])]
    have hni : ((n : Int) != (m : Int)) = true := by simp; omega
    go_enter Tryd.func10, Tryd.ntmps10
    go_wp2
    go_ret
    exact ⟨by rw [HE.out]; rfl, Below.refl _ _⟩
end Go.Proofs.YtpklbchbldipnabDoor
