/- The document's Read. -/
import Derived.Test.YtfgjhlnaaopdeabDkN
namespace Go.Proofs.Ytfgjhlnaaopdeab
open Go.RowKit Go.Maps

/-- Six cells of a block. -/
theorem six_cells {w W : World} {g : Nat} {t : TypeId} {a b c d e f : Value} (h : Arr w g t [a, b, c, d, e, f]) (hb : W.heap[g]? = w.heap[g]?) : W.cell? ⟨g, 0, none⟩ = some a ∧ W.cell? ⟨g, 1, none⟩ = some b ∧ W.cell? ⟨g, 2, none⟩ = some c ∧ W.cell? ⟨g, 3, none⟩ = some d ∧ W.cell? ⟨g, 4, none⟩ = some e ∧ W.cell? ⟨g, 5, none⟩ = some f :=
  have h' : Arr W g t [a, b, c, d, e, f] := h.keep hb
  ⟨h'.cell_of rfl, h'.cell_of rfl, h'.cell_of rfl, h'.cell_of rfl, h'.cell_of rfl, h'.cell_of rfl⟩
section
variable {ops : Array Oper} {o : Oper} {a : Act} {w : World} {K : Act → World → Prop} {Q : Exit → Act → World → Prop} {E : Prop}
theorem step_storeRow (hgd : o.guard = none) (x y : Operand) (t : TypeId) (ho : o.op = .store t x y) {b of : Nat} {cs : List Value} (hx : a.eval x = .pointer (some ⟨b, of, none⟩)) (hy : a.eval y = .agg cs.toArray) (ht : w.there b of cs.length) (hi : (Try.prog.info? t).map (·.size) = some cs.length) (h1 : ∀ u ∈ cs, u.oneCell' = true)
    (hk : K (a.put o.dst undef) (w.setCells b of cs)) : if Region.wanted o (yielded ops a.tmps) = true then Oper.wp Try.prog o a w K Q else E := by
  rw [if_pos (by simp [Region.wanted, hgd])]
  exact wp_store_mid _ x y ho b of cs.toArray hx hy (by rw [List.size_toArray]; exact ht) (by rw [List.size_toArray]; exact hi) (all_oneCell_toArray h1) hk
end
theorem Arr.range {w : World} {g : Nat} {t : TypeId} {cs : List Value} (h : Arr w g t cs) : w.rangeAt g 0 cs := fun j v hv => by rw [h.cell, Nat.zero_add]; exact hv
theorem Arr.there {w : World} {g : Nat} {t : TypeId} {cs : List Value} (h : Arr w g t cs) : w.there g 0 cs.length := fun j hj => ⟨by rw [h.cell, Nat.zero_add, List.getElem?_eq_getElem hj]; rfl, h.frozen _⟩
theorem Arr.setAll {w : World} {g : Nat} {t : TypeId} {cs : List Value} (h : Arr w g t cs) {ds : List Value} (hl : ds.length = cs.length) : Arr (w.setCells g 0 ds) g t ds := by
  obtain ⟨c2, h1, h2, h3⟩ := setCells_row ds 0 w cs.toArray h (by simp; omega)
  unfold Arr
  rw [h1]
  congr 2
  apply Array.ext_getElem?
  intro q
  rw [h3 q]
  by_cases hq : q < ds.length
  · rw [if_pos (by omega)]; simp
  · rw [if_neg (by omega), Array.getElem?_eq_none (by simp; omega), Array.getElem?_eq_none (by simp; omega)]
def rdC (n : Int) (a1 : Option Addr) (n1 c1 : Nat) (a2 : Option Addr) (n2 c2 : Nat) (rd wt fl : Int) : List Value := [.int .i64 n, .slice a1 n1 c1, .slice a2 n2 c2, .int .i64 rd, .int .i64 wt, .int .i64 fl]
theorem rdC_one (n : Int) (a1 : Option Addr) (n1 c1 : Nat) (a2 : Option Addr) (n2 c2 : Nat) (rd wt fl : Int) : ∀ u ∈ rdC n a1 n1 c1 a2 n2 c2 rd wt fl, u.oneCell' = true := by
  intro u hu
  simp only [rdC, List.mem_cons, List.not_mem_nil, or_false] at hu
  rcases hu with rfl | rfl | rfl | rfl | rfl | rfl <;> rfl
theorem now_enter (v u : Value) (W : World) : (callFunc 50 #[v, u]).run Try.prog W = .ok (.enter 50 #[v, u]) W := by kernel_rfl
theorem info36 : (Try.prog.info? 85).map (·.size) = some 6 := by kernel_rfl
set_option maxRecDepth 100000 in
set_option maxHeartbeats 2000000 in
theorem rread_bad {w : World} {a1 a2 : Option Addr} {n1 n2 c1 c2 : Nat} {n x rd wt fl : Int} (hx : x < 0 ∨ n ≤ x) :
    Calls Try.prog 40 #[.agg #[.int .i64 n, .slice a1 n1 c1, .slice a2 n2 c2, .int .i64 rd, .int .i64 wt, .int .i64 fl], .int .i64 x] w fun e w' => e = .returned (.tuple #[.agg #[.int .i64 n, .slice a1 n1 c1, .slice a2 n2 c2, .int .i64 rd, .int .i64 wt, .int .i64 fl], .slice none 0 0, .int .i64 31]) ∧ Below w.heap.size w w' := by
  by_cases h0 : x < 0
  · clear hx
    go_enter Try.func40, Try.ntmps40
    go_wp2
    exact bodyPost_ret (v := .tuple #[.agg #[.int .i64 n, .slice a1 n1 c1, .slice a2 n2 c2, .int .i64 rd, .int .i64 wt, .int .i64 fl], .slice none 0 0, .int .i64 31]) (by simp [results, Try.results40, go_sem]) rfl ⟨rfl, ((Below.refl _ _).alloc (Nat.le_refl _) _).alloc (by simp) _⟩
  · have h1 : decide (x < 0) = false := by simpa using h0
    have h2 : decide (n ≤ x) = true := by rcases hx with hx | hx; · exact absurd hx h0
                                          · simpa using hx
    clear hx h0
    go_enter Try.func40, Try.ntmps40
    go_wp2
    exact bodyPost_ret (v := .tuple #[.agg #[.int .i64 n, .slice a1 n1 c1, .slice a2 n2 c2, .int .i64 rd, .int .i64 wt, .int .i64 fl], .slice none 0 0, .int .i64 31]) (by simp [results, Try.results40, go_sem]) rfl ⟨rfl, ((Below.refl _ _).alloc (Nat.le_refl _) _).alloc (by simp) _⟩
set_option maxRecDepth 100000 in
set_option maxHeartbeats 2000000 in
theorem rread_good {w : World} {a1 a2 : Option Addr} {n1 n2 c1 c2 : Nat} {x : Nat} {n rd wt fl : Int} {l la : Ats} {N : Nat} (h : IsAts w (.slice a2 n2 c2) l) (ha : IsAts w (.slice a1 n1 c1) la) (hok : AtsOk N l) (hoa : AtsOk N la) (hx : (x : Int) < n) (hr0 : 0 ≤ rd) (hr1 : rd ≤ 1152921504606846976) :
    Calls Try.prog 40 #[.agg #[.int .i64 n, .slice a1 n1 c1, .slice a2 n2 c2, .int .i64 rd, .int .i64 wt, .int .i64 fl], .int .i64 (x : Int)] w fun e w' => ∃ u, e = .returned (.tuple #[.agg #[.int .i64 n, .slice a1 n1 c1, .slice a2 n2 c2, .int .i64 (rd + 1), .int .i64 wt, .int .i64 fl], u, .int .i64 0]) ∧ Own8 w' 0 u ((ofN l x).getLast?.getD (lastOf la x)) ∧ Below w.heap.size w w' := by
  have h1 : decide ((x : Int) < 0) = false := by simp
  have h2 : decide (n ≤ (x : Int)) = false := by simpa using hx
  have HN : Hid (∀ W, Below w.heap.size w W → Calls Try.prog 50 #[.agg #[.int .i64 n, .slice a1 n1 c1, .slice a2 n2 c2, .int .i64 (rd + 1), .int .i64 wt, .int .i64 fl], .int .i64 (x : Int)] W fun e w' => ∃ u, e = .returned u ∧ Own8 w' 0 u ((ofN l x).getLast?.getD (lastOf la x)) ∧ Below W.heap.size W w') := fun W hW => now_calls (h.below hW) (ha.below hW) hok hoa
  clear h ha hok hoa hx
  go_enter Try.func40, Try.ntmps40
  go_wp2
  generalize hw1 : (w.alloc (Obj.cells #[.int .i64 n, .slice a1 n1 c1, .slice a2 n2 c2, .int .i64 (rd + 1), .int .i64 wt, .int .i64 fl] 85)).alloc (Obj.cells #[.int .i64 0, .slice none 0 0, .slice none 0 0, .int .i64 0, .int .i64 0, .int .i64 0] 85) = w1
  have hA1 : Arr w1 w.heap.size 85 [.int .i64 n, .slice a1 n1 c1, .slice a2 n2 c2, .int .i64 (rd + 1), .int .i64 wt, .int .i64 fl] := by
    rw [← hw1]; exact (Arr.new w [.int .i64 n, .slice a1 n1 c1, .slice a2 n2 c2, .int .i64 (rd + 1), .int .i64 wt, .int .i64 fl] _).alloc _
  have hA2 : Arr w1 (w.heap.size + 1) 85 [.int .i64 0, .slice none 0 0, .slice none 0 0, .int .i64 0, .int .i64 0, .int .i64 0] := by
    have := Arr.new (w.alloc (Obj.cells #[.int .i64 n, .slice a1 n1 c1, .slice a2 n2 c2, .int .i64 (rd + 1), .int .i64 wt, .int .i64 fl] 85)) [.int .i64 0, .slice none 0 0, .slice none 0 0, .int .i64 0, .int .i64 0, .int .i64 0] 85
    rw [size_alloc] at this
    rw [← hw1]; exact this
  have hb1 : Below w.heap.size w w1 := by rw [← hw1]; exact ((Below.refl _ _).alloc (Nat.le_refl _) _).alloc (by simp) _
  have hz1 : w1.heap.size = w.heap.size + 1 + 1 := by rw [← hw1]; simp
  clear hw1
  have hund := Try.underlying85
  have hlt1 := hA1.lt
  have HR := hide hA1.range
  have HA2 := hide hA2
  have hone := rdC_one n a1 n1 c1 a2 n2 c2 (rd + 1) wt fl
  refine wp_region_held_drew (S := fun W => W.rangeAt w.heap.size 0 (rdC n a1 n1 c1 a2 n2 c2 (rd + 1) wt fl)) (by kernel_rfl) (range_of_block HR.out rfl) (fun hHeld => ?_)
  refine wpAnyH_take (i := 0) (v := .agg (rdC n a1 n1 c1 a2 n2 c2 (rd + 1) wt fl).toArray) rfl (by kernel_rfl) (by kernel_rfl) (by kernel_rfl) (fun _ _ _ h => h) (yieldsIf_load_mid (by rfl) _ _ rfl _ _ rfl _ _ (fun w hSw => hSw) hund rfl info36) (by assumption) ?_
  simp only [List.getElem_toArray, List.getElem_cons_zero, Act.put, List.setIfInBounds_toArray, List.set_cons_zero, List.set_cons_succ]
  refine wpAnyH_take (i := 1) (v := .agg (rdC n a1 n1 c1 a2 n2 c2 (rd + 1) wt fl).toArray) rfl (by kernel_rfl) (by kernel_rfl) (by kernel_rfl) (fun _ _ _ h => h) (yieldsIf_load_mid (by rfl) _ _ rfl _ _ rfl _ _ (fun w hSw => hSw) hund rfl info36) (by assumption) ?_
  simp only [List.getElem_toArray, List.getElem_cons_succ, List.getElem_cons_zero, Act.put, List.setIfInBounds_toArray, List.set_cons_zero, List.set_cons_succ]
  refine wpAnyH_take (i := 2) (v := .int .i64 (x : Int)) rfl (by kernel_rfl) (by kernel_rfl) (by kernel_rfl) (fun _ _ _ h => h) (Or.inl ⟨by rfl, fun w hSw => by go_simp⟩) (by assumption) ?_
  simp only [List.getElem_toArray, List.getElem_cons_succ, List.getElem_cons_zero, Act.put, List.setIfInBounds_toArray, List.set_cons_zero, List.set_cons_succ]
  refine wpAnyH_ready (rs := [3]) (by kernel_rfl) (by simp) (AllReadyH.cons rfl (fun K hK => ?_) AllReadyH.nil)
  refine step_call2Q rfl 50 now_enter (.tmp 23) (.tmp 24) _ rfl rfl rfl (unhide HN _ hb1.drew) ?_
  rintro e w2 ⟨u, rfl, hu, hb2'⟩
  have hb2 : Below w1.heap.size w1 w2 := below_drew hb2'
  refine ⟨_, rfl, hK.out _ _ (range_of_block HR.out (hb2.block _ hlt1)) (fun hHeld2 => ?_)⟩
  clear hK K
  simp only [List.getElem_toArray, List.getElem_cons_succ, List.getElem_cons_zero, Act.put, List.setIfInBounds_toArray, List.set_cons_zero, List.set_cons_succ]
  have hA3 := HA2.out.below hb2
  refine wpAnyH_ready (rs := [4]) (by kernel_rfl) (by simp) (AllReadyH.cons rfl (fun K hK => ?_) AllReadyH.nil)
  refine step_storeRow rfl (.tmp 4) (.tmp 22) 85 rfl rfl rfl hA3.there info36 hone ?_
  have hA4 := hA3.setAll (ds := rdC n a1 n1 c1 a2 n2 c2 (rd + 1) wt fl) rfl
  have hg4 := grown_setCells w2 (w.heap.size + 1) 0 (rdC n a1 n1 c1 a2 n2 c2 (rd + 1) wt fl)
  have hb4 : Below w.heap.size w (w2.setCells (w.heap.size + 1) 0 (rdC n a1 n1 c1 a2 n2 c2 (rd + 1) wt fl)) := (hb1.trans (hb2.mono hb1.size)).grown hg4 (Nat.le_trans hb1.size hb2.size) (fun j hj => by injection hj with hj; omega)
  have hu4 : Own8 (w2.setCells (w.heap.size + 1) 0 (rdC n a1 n1 c1 a2 n2 c2 (rd + 1) wt fl)) 0 u ((ofN l x).getLast?.getD (lastOf la x)) := ⟨hu.1.kept hg4 (by
    rcases hu.1.2 with ⟨rfl, _⟩ | ⟨g', cap, cur, rfl, _, hgg, _⟩
    · exact Or.inl rfl
    · refine Or.inr fun e => ?_
      simp only [Value.ownBlock, Option.some.injEq] at e
      subst e
      have := hA3
      unfold Arr at this
      rw [hgg] at this
      simp only [Option.some.injEq, Obj.cells.injEq] at this
      exact absurd this.2.1 (by decide)), hu.2⟩
  refine hK.out _ _ (range_of_block hHeld2 (hg4.block _ (by have := hb2.size; omega) (by simp))) (fun hHeld3 => ?_)
  clear hK K
  simp only [List.getElem_toArray, List.getElem_cons_succ, List.getElem_cons_zero, Act.put]
  generalize w2.setCells (w.heap.size + 1) 0 (rdC n a1 n1 c1 a2 n2 c2 (rd + 1) wt fl) = w5 at *
  have hI4 : IsB w5 u _ := Own8.isB hu4
  obtain ⟨ua, un, uc, rfl⟩ := hI4.shape
  refine wpAnyH_take (i := 5) (v := .slice ua un uc) rfl (by kernel_rfl) (by kernel_rfl) (by kernel_rfl) (fun _ _ _ h => h) (Or.inl ⟨by rfl, fun w hSw => by go_simp⟩) (by assumption) ?_
  simp only [List.getElem_toArray, List.getElem_cons_succ, List.getElem_cons_zero, Act.put, List.setIfInBounds_toArray, List.set_cons_zero, List.set_cons_succ]
  refine wpAnyH_take (i := 6) (v := .int .i64 0) rfl (by kernel_rfl) (by kernel_rfl) (by kernel_rfl) (fun _ _ _ h => h) (Or.inl ⟨by rfl, fun w hSw => by go_simp⟩) (by assumption) ?_
  simp only [List.getElem_toArray, List.getElem_cons_succ, List.getElem_cons_zero, Act.put, List.setIfInBounds_toArray, List.set_cons_zero, List.set_cons_succ]
  refine wpAnyH_done (by kernel_rfl) ?_ _
  go_wp2
  have hload : (loadVar 85 ⟨w.heap.size + 1, 0, none⟩).run Try.prog w5 = .ok (.agg (rdC n a1 n1 c1 a2 n2 c2 (rd + 1) wt fl).toArray) w5 := run_loadVar_mid w5 _ 0 _ _ _ hA4.range hund rfl info36
  exact bodyPost_ret (v := .tuple #[.agg (rdC n a1 n1 c1 a2 n2 c2 (rd + 1) wt fl).toArray, .slice ua un uc, .int .i64 0]) (by simp [results, Try.results40, asAddr, hload]) rfl ⟨_, rfl, hu4, hb4⟩
end Go.Proofs.Ytfgjhlnaaopdeab
