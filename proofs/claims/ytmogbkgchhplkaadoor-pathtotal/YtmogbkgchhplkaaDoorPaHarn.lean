/- Lists of texts: appended, cut, laid with marks behind. -/
import Derived.Test.YtmogbkgchhplkaaDoorPaIsS
import Derived.Laws.AppendOwnNone
namespace Go.Proofs.YtmogbkgchhplkaaDoor
open Go.RowKit

theorem IsS.cells {w : World} {ad : Addr} {n cap : Nat} {l : List ByteArray} (h : IsS w (.slice (some ad) n cap) l) : ∀ j u, (sV l)[j]? = some u → w.cell? (ad.add j) = some u := by
  intro j u hu
  obtain ⟨a, c, hv, _, _, _, hc⟩ := h
  have hj : j < l.length := by
    have := (List.getElem?_eq_some_iff.1 hu).1
    rwa [sV_len] at this
  obtain ⟨b, o, ha, hcell⟩ := hc (by omega)
  injection hv with e1 e2 e3
  rw [ha] at e1
  injection e1 with e1
  subst e1
  rw [Addr.add_lit, hcell j hj, ← hu]
  unfold sV
  rw [List.getElem?_map, List.getD_eq_getElem?_getD, List.getElem?_eq_getElem hj]
  rfl
theorem str_one (l : List ByteArray) : ∀ u ∈ sV l, u.oneCell' = true := by
  intro u hu
  obtain ⟨x, _, rfl⟩ := List.mem_map.1 hu
  rfl
theorem IsS.lenEq {w : World} {a : Option Addr} {n cap : Nat} {l : List ByteArray} (h : IsS w (.slice a n cap) l) : n = l.length := by
  obtain ⟨_, _, hv, _⟩ := h
  injection hv
section
variable {ops : Array Oper} {rest : List Oper} {o : Oper} {a : Act} {Q : Exit → Act → World → Prop} {w : World} {K : Act → World → Prop}
theorem wpList_onS (hw : Region.wanted o (yielded ops a.tmps) = true) (h : ∀ K : Act → World → Prop, (∀ a w, wpList Tryd.prog ops Q rest a w → K a w) → o.wp Tryd.prog a w K Q) : wpList Tryd.prog ops Q (o :: rest) a w :=
  wpList_step fun K hK => by rw [if_pos hw]; exact h K hK
/-- Texts appended to a row of the call's own. -/
theorem wp_appStr (x y : Operand) (ho : o.op = .call { callee := .builtin .append, args := #[x, y], argTypes := #[25, 25] }) {B : Nat} {v u : Value} {xs ys : List ByteArray} (hx : a.eval x = v) (hown : Row w B 9 v (sV xs)) (hy : a.eval y = u) (hys : IsS w u ys)
    (hl : xs.length + ys.length ≤ 100000000) (hB : B ≤ w.heap.size) (hk : ∀ v' w', Row w' B 9 v' (sV (xs ++ ys)) → w.grownBy w' v.ownBlock → K (a.put o.dst v') w') : o.wp Tryd.prog a w K Q := by
  obtain ⟨i0, hi, hz0, hz1, hz2⟩ := info_part infoStr
  have hys' := hys
  obtain ⟨ad, cap, rfl, _, _, hz, hc⟩ := hys
  cases ad with
  | none =>
    have h0 : ys = [] := by
      by_cases hp : 0 < ys.length
      · obtain ⟨b2, off2, ha, _⟩ := hc hp
        cases ha
      · exact List.eq_nil_of_length_eq_zero (by omega)
    subst h0
    obtain rfl := hz rfl
    have hrun := run_append_owned_none (P := Tryd.prog) (w := w) B 25 o.type 9 i0 1 Tryd.underlying25 hi v _ _ hown
    have := hk v w (by rw [List.append_nil]; exact hown) ⟨rfl, rfl, rfl, Nat.le_refl _, fun _ _ _ => rfl⟩
    unfold Oper.wp
    simp [execOp, ho, resolve, invoke, builtin, hx, hy, hrun, Result.andThen]
    exact this
  | some ad =>
    have hxl := sV_len xs
    have hyl := sV_len ys
    refine wp_append_own w x y 25 ho B 9 i0 (.string ByteArray.empty) 1 16 Tryd.underlying25 hi hz0 hz1 hz2 rfl (by decide) v (sV xs).length (sV xs) hx hown ad ys.length cap (sV ys) hy (by rw [hyl]; omega) hys'.cells (str_one ys) (by unfold maxLen; omega) (by omega) hB ?_
    intro v' w' h2 h3 _
    refine hk v' w' ?_ h3
    unfold Row
    rw [sV_len, List.length_append]
    rw [hxl] at h2
    unfold sV at h2 ⊢
    rw [List.map_append]
    exact h2
theorem wpList_appStr (hw : Region.wanted o (yielded ops a.tmps) = true) (x y : Operand) (ho : o.op = .call { callee := .builtin .append, args := #[x, y], argTypes := #[25, 25] }) {B : Nat} {v u : Value} {xs ys : List ByteArray} (hx : a.eval x = v) (hown : Row w B 9 v (sV xs)) (hy : a.eval y = u) (hys : IsS w u ys)
    (hl : xs.length + ys.length ≤ 100000000) (hB : B ≤ w.heap.size) (hk : ∀ v' w', Row w' B 9 v' (sV (xs ++ ys)) → w.grownBy w' v.ownBlock → wpList Tryd.prog ops Q rest (a.put o.dst v') w') : wpList Tryd.prog ops Q (o :: rest) a w :=
  wpList_onS hw fun _ hK => wp_appStr x y ho hx hown hy hys hl hB fun v' w' h1 h2 => hK _ _ (hk v' w' h1 h2)
end
theorem isS_lit (w : World) (l : List ByteArray) (hl : l.length ≤ 1000) : IsS (w.alloc (.cells (l.map Value.string).toArray 9)) (.slice (some ⟨w.heap.size, 0, none⟩) l.length l.length) l :=
  isS_block (by omega) (heap_alloc_new w _)
theorem elemS : Tryd.prog.underlying 25 = some (.slice (Tryd.prog.elem 25)) := by kernel_rfl
theorem sizeS (W : World) : (sizeOf (Tryd.prog.elem 25)).run Tryd.prog W = .ok 1 W := by kernel_rfl
def subAx (a : Option Addr) (cap q : Nat) : Option Addr := if cap = q then a else a.map (·.add q)
theorem slice_hS (a : Option Addr) (n cap t : Nat) (ht : t ≤ cap) (W : World) : (Instr.sliceAt 25 (.slice a n cap) none (some (.int .i64 (t : Int))) none).run Tryd.prog W = .ok (.slice (subAx a cap 0) t cap) W := by
  rw [run_sliceAt_slice W _ _ _ _ _ elemS, run_slice_h W _ a n cap elemS .i64 t (by omega) (by omega), sizeS]
  simp [Result.andThen, sliced, subAx]
theorem slice_lS (a : Option Addr) (n cap q : Nat) (hq : q ≤ n) (W : World) : (Instr.sliceAt 25 (.slice a n cap) (some (.int .i64 (q : Int))) none none).run Tryd.prog W = .ok (.slice (subAx a cap q) (n - q) (cap - q)) W := by
  rw [run_sliceAt_slice W _ _ _ _ _ elemS, run_slice_l W _ a n cap elemS .i64 q (by omega) (by omega), sizeS]
  simp [Result.andThen, sliced, subAx]
def mk1 : ByteArray := ⟨#[47, 47, 49]⟩
def mk2 : ByteArray := ⟨#[47, 47, 50]⟩
def mk3 : ByteArray := ⟨#[47, 47, 51]⟩
def mks : List ByteArray := [mk1, mk2, mk3]
set_option maxRecDepth 100000 in
set_option maxHeartbeats 4000000 in
/-- A copy with marks in the room behind it. -/
theorem laid_calls {v : Value} {l : List ByteArray} {w : World} (hv : IsS w v l) (hl1 : l.length ≤ 1000000) : Calls Tryd.prog 28 #[v] w fun e w' => ∃ g c, e = .returned (.slice (some ⟨g, 0, none⟩) l.length c) ∧ Row w' w.heap.size 9 (.slice (some ⟨g, 0, none⟩) (l.length + 3) c) (sV (l ++ mks)) ∧ Below w.heap.size w w' := by
  obtain ⟨aa, ca, rfl, hla, hma, hza, hca⟩ := hv
  have HV : Hid (IsS w (.slice aa l.length ca) l) := ⟨aa, ca, rfl, hla, hma, hza, hca⟩
  clear hca hza
  obtain ⟨n, hn⟩ : ∃ n, n = l.length := ⟨_, rfl⟩
  rw [← hn] at HV hla hl1 ⊢
  have HN := hide hn
  clear hn
  go_enter Tryd.func28, Tryd.ntmps28
  have HR0 : Hid (Row w w.heap.size 9 (.slice none 0 0) (sV [])) := Row.nil w w.heap.size 9
  have HL0 : Hid (([] : List ByteArray).length + l.length ≤ 100000000) := by
    show _ ≤ _
    rw [← HN.out]; simp; omega
  have HLM : Hid (∀ W : World, IsS (W.alloc (.cells #[.string ⟨#[47, 47, 49]⟩, .string ⟨#[47, 47, 50]⟩, .string ⟨#[47, 47, 51]⟩] 9)) (.slice (some ⟨W.heap.size, 0, none⟩) 3 3) mks) := fun W => isS_lit W mks (by decide)
  have HML : Hid ((sV (l ++ mks)).length = n + 3) := by show _ = _; rw [sV_len, List.length_append, ← HN.out]; rfl
  have HL1 : Hid (([] ++ l).length + mks.length ≤ 100000000) := by
    show _ ≤ _
    rw [List.nil_append, ← HN.out]; simp [mks]; omega
  go_wp2_with (first
    | (at_builtin; refine wpList_appStr rfl (.tmp 4) (.tmp 5) rfl rfl HR0.out rfl HV.out HL0.out (Nat.le_refl _) ?_; intro v1 w1 hr1 hg1; have HG1 := hide hg1; clear hg1; have hsz1 := (HG1.out).size)
    | (at_builtin; refine wpList_appStr rfl (.tmp 7) (.tmp 8) rfl rfl (World.ownsRow.alloc hr1 _) rfl (unhide HLM w1) HL1.out (by simp; omega) ?_; intro v2 w2 hr2 hg2; have HG2 := hide hg2; clear hg2; rw [List.nil_append] at hr2; obtain ⟨g, c, e2, hc1, hc2, hc3, hc4⟩ := hr2.head (by simp [sV, mks]); rw [HML.out] at hc1 e2; subst e2; have hnc : n ≤ c := by omega))
  go_ret
  refine ⟨g, c, rfl, hr2, ?_⟩
  have hb1 : Below w.heap.size w w1 := (Below.refl _ w).grown (HG1.out) (Nat.le_refl _) (fun k hk => by cases hk)
  exact (hb1.alloc hsz1 _).grown HG2.out (by simp; omega) (fun k hk => (hr1.lt k hk).1)
set_option maxRecDepth 100000 in
set_option maxHeartbeats 4000000 in
/-- Is it as it was handed in, the marks behind it too? -/
theorem intact_calls {g c B : Nat} {v : Value} {l : List ByteArray} {w : World} (hr : Row w B 9 (.slice (some ⟨g, 0, none⟩) (l.length + 3) c) (sV (l ++ mks))) (hv : IsS w v l) (hl1 : l.length ≤ 1000000) : Calls Tryd.prog 30 #[.slice (some ⟨g, 0, none⟩) l.length c, v] w fun e w' => e = .returned (.bool true) ∧ Below w.heap.size w w' := by
  have hml : (sV (l ++ mks)).length = l.length + 3 := by rw [sV_len, List.length_append]; rfl
  obtain ⟨g', c', e0, hc1, hc2, _, hgl⟩ := hr.head (by rw [hml]; omega)
  injection e0 with e1 e2 e3
  injection e1 with e1
  injection e1 with e1
  subst e1 e3
  rw [hml] at hc1
  clear e2
  have hu : IsS w (.slice (some ⟨g, 0, none⟩) l.length c) l := by
    refine ⟨some ⟨g, 0, none⟩, c, rfl, by omega, hc2, fun h => (by cases h), fun _ => ⟨g, 0, rfl, fun j hj => ?_⟩⟩
    rw [Nat.zero_add, hr.cellAt (by rw [hml]; omega)]
    unfold sV
    rw [List.getElem?_map, List.getElem?_append_left hj, List.getD_eq_getElem?_getD, List.getElem?_eq_getElem hj]
    rfl
  have HM : Hid (∀ k x, mks[k]? = some x → w.cell? ⟨g, l.length + k, none⟩ = some (.string x)) := fun k x hk => by
    have hk3 : k < 3 := (List.getElem?_eq_some_iff.1 hk).1
    rw [hr.cellAt (by rw [hml]; omega)]
    unfold sV
    rw [List.getElem?_map, List.getElem?_append_right (by omega), show l.length + k - l.length = k by omega, hk]
    rfl
  have HS : Hid (Calls Tryd.prog 22 #[.slice (some ⟨g, 0, none⟩) l.length c, v] w fun e w' => e = .returned (.bool true) ∧ Below w.heap.size w w') := by
    have := same_calls hu hv
    rw [decide_eq_true rfl] at this
    exact this
  clear hr hv hu hml
  generalize l.length = n at *
  have hc : n + 3 ≤ c := hc1
  have hnc : n ≤ n + 3 := by omega
  go_enter Tryd.func30, Tryd.ntmps30
  go_wp2_with fail
  refine (unhide HS).mono ?_
  rintro e w1 ⟨rfl, hb⟩
  have h0 := (hb.cell (p := ⟨g, n, none⟩) hgl).trans (unhide HM 0 mk1 rfl)
  have h1 := (hb.cell (p := ⟨g, n + 1, none⟩) hgl).trans (unhide HM 1 mk2 rfl)
  have h2 := (hb.cell (p := ⟨g, n + 2, none⟩) hgl).trans (unhide HM 2 mk3 rfl)
  have q1 : (mk1.toList == [47, 47, 49]) = true := by rw [ByteArray.toList_eq]; rfl
  have q2 : (mk2.toList == [47, 47, 50]) = true := by rw [ByteArray.toList_eq]; rfl
  have q3 : (mk3.toList == [47, 47, 51]) = true := by rw [ByteArray.toList_eq]; rfl
  go_wp2
  go_ret
  exact ⟨rfl, hb⟩
/-- At most forty names, cut. -/
def cutN (l : List ByteArray) : List ByteArray := (l.take 40).map cutS
theorem cutN_len (l : List ByteArray) : (cutN l).length ≤ 40 := by unfold cutN; rw [List.length_map, List.length_take]; omega
theorem cutN_le (l : List ByteArray) : ∀ x ∈ cutN l, x.size ≤ 2000 := by
  intro x hx
  obtain ⟨y, _, rfl⟩ := List.mem_map.1 hx
  exact cutS_le y
set_option maxRecDepth 100000 in
set_option maxHeartbeats 4000000 in
/-- The names, cut. -/
theorem cutNames_calls {v : Value} {l : List ByteArray} {w : World} (hv : IsS w v l) : Calls Tryd.prog 14 #[v] w fun e w' => ∃ u, e = .returned u ∧ Row w' w.heap.size 9 u (sV (cutN l)) ∧ Below w.heap.size w w' := by
  obtain ⟨i0, hi, hz0, hz1, hz2⟩ := info_part infoStr
  have HV := hide hv
  obtain ⟨aa, ca, rfl, hla, hma, hza, hca⟩ := hv
  clear hca hza
  have HC : Hid (∀ (x : ByteArray) W, Calls Tryd.prog 9 #[.string x] W fun e w' => e = .returned (.string (cutS x)) ∧ w' = W) := cut_calls
  obtain ⟨n, hn⟩ : ∃ n, n = l.length := ⟨_, rfl⟩
  rw [← hn] at HV hla ⊢
  have HN := hide hn
  clear hn
  go_enter Tryd.func14, Tryd.ntmps14
  go_wp2_with fail
  go_loopw [3, 4] (fun rv iv wr => ∃ (i : Nat), i ≤ n ∧ i ≤ 40 ∧ iv = .int .i64 (i : Int) ∧ Row wr w.heap.size 9 rv (sV ((l.take i).map cutS)) ∧ Below w.heap.size w wr) (fun _ i _ => n - (intOf i).toNat)
  case atStart => exact ⟨0, by omega, by omega, rfl, Row.nil _ _ _, Below.refl _ _⟩
  case round =>
    obtain ⟨i, hin, hi40, rfl, hrow, hb⟩ := hrel
    have hsz := hb.size
    by_cases hlt : i < n ∧ i < 40
    · obtain ⟨hlt, hl40⟩ := hlt
      have hiI : (i : Int) < (n : Int) := by omega
      have hi4 : (i : Int) < 40 := by omega
      have hil : i < l.length := by rw [← HN.out]; exact hlt
      obtain ⟨a2, c2, hv2, hc1, hc2, _, hcells⟩ := (HV.out).below hb
      injection hv2 with e1 e2 e3
      subst e1 e3
      obtain ⟨b, o, rfl, hcell⟩ := hcells (by omega)
      have hx := hcell i hil
      have HT : Hid (sV ((l.take (i + 1)).map cutS) = sV ((l.take i).map cutS) ++ [.string (cutS (l.getD i default))]) := by
        show _ = _
        rw [List.take_add_one, List.getElem?_eq_getElem hil, List.getD_eq_getElem?_getD, List.getElem?_eq_getElem hil]
        unfold sV
        rw [List.map_append, List.map_append]
        rfl
      have hll : (sV ((l.take i).map cutS)).length = i := by rw [sV_len, List.length_map, List.length_take]; omega
      have HLL := hide hll
      clear hll hcells hcell e2
      have HX := hide (unhide HC (l.getD i default))
      generalize l.getD i default = x at *
      generalize cutS x = y at *
      obtain ⟨al, cl, hvl⟩ := hrow.shape
      subst hvl
      have HRW := hide hrow
      rw [HLL.out] at HRW ⊢
      clear hrow
      have HLY : Hid (∀ W : World, IsS (W.alloc (.cells #[.string y] 9)) (.slice (some ⟨W.heap.size, 0, none⟩) 1 1) [y]) := fun W => isS_lit W [y] (by simp)
      have HLN : Hid (((l.take i).map cutS).length + [y].length ≤ 100000000) := by
        show _ ≤ _
        rw [List.length_map, List.length_take]; simp; omega
      go_wp2_with (first | (go_at_call 9; refine (unhide HX _).mono ?_; rintro e w1 ⟨rfl, hw1⟩; obtain rfl := hw1.symm; clear hw1) | (at_builtin; refine wpList_appStr rfl (.tmp 15) (.tmp 21) rfl rfl (World.ownsRow.alloc HRW.out _) rfl (unhide HLY wr) HLN.out (by simp; omega) ?_; intro v2 w2 hr2 hg2; have HG2 := hide hg2; clear hg2))
      have hr3 : Row w2 w.heap.size 9 v2 (sV ((l.take (i + 1)).map cutS)) := by
        have e : sV ((l.take (i + 1)).map cutS) = sV ((l.take i).map cutS ++ [y]) := by
          rw [HT.out]; unfold sV; rw [List.map_append]; rfl
        rw [e]; exact hr2
      have hb3 : Below w.heap.size w w2 := (hb.alloc hsz _).grown HG2.out (by simp; omega) (fun k hk => ((HRW.out).lt k hk).1)
      go_roundw
      case rel => exact ⟨i + 1, by omega, by omega, by go_num, hr3, hb3⟩
      case measure => simp [intOf]; omega
    · have HE : Hid ((l.take i).map cutS = cutN l) := by
        show _ = _
        unfold cutN
        congr 1
        have hne := HN.out
        by_cases h40 : i = 40
        · rw [h40]
        · have : i = n := by omega
          rw [List.take_of_length_le (by omega), List.take_of_length_le (by omega)]
      rw [HE.out] at hrow
      by_cases h1 : i < n
      · have q1 : (i : Int) < (n : Int) := by omega
        have q2 : ¬ (i : Int) < 40 := by omega
        clear hlt
        go_wp2
        go_ret
        exact ⟨_, rfl, hrow, hb⟩
      · have q1 : ¬ (i : Int) < (n : Int) := by omega
        clear hlt
        go_wp2
        go_ret
        exact ⟨_, rfl, hrow, hb⟩
end Go.Proofs.YtmogbkgchhplkaaDoor
