/- marked. -/
import Derived.Test.YtmogbkgchhplkabDoorPaMark
namespace Go.Proofs.YtmogbkgchhplkabDoor
open Go.RowKit

theorem mark_enter5 (v : Value) (W : World) : (callFunc 34 #[v]).run Tryd.prog W = .ok (.enter 34 #[v]) W := by kernel_rfl
section
variable {ops : Array Oper} {o : Oper} {a : Act} {w : World} {K : Act → World → Prop} {Q : Exit → Act → World → Prop} {E : Prop}
theorem step_call1G5 (hw : Region.wanted o (yielded ops a.tmps) = true) (f : Nat) (hf : ∀ (v : Value) (W : World), (callFunc f #[v]).run Tryd.prog W = .ok (.enter f #[v]) W) (x : Operand) (ts : Array TypeId) (ho : o.op = .call { callee := .value (.func f), args := #[x], argTypes := ts }) {v : Value} (hx : a.eval x = v)
    {Post : Ending → World → Prop} (hc : Calls Tryd.prog f #[v] w Post) (hk : ∀ e w2, Post e w2 → ∃ r, e = .returned r ∧ K (a.put o.dst r) w2) :
    if Region.wanted o (yielded ops a.tmps) = true then Oper.wp Tryd.prog o a w K Q else E := by
  rw [if_pos hw]
  have hrun : (execOp a.eval o).run Tryd.prog w = .ok (.enter f #[v]) w := by
    have h1 := hf v w
    unfold execOp
    have hfv : a.eval (.func f) = .func (.func f) #[] #[] := rfl
    simp [ho, hx, hfv, resolve, invoke, Deferred.ofValue, h1]
  unfold Oper.wp
  rw [hrun]
  refine hc.mono ?_
  intro e w2 hp
  obtain ⟨r, rfl, hK⟩ := hk e w2 hp
  exact hK
end
/-- What a cell holds, whatever it is. -/
def cellOf (W : World) (a : Addr) : Value := (W.cell? a).getD undef
theorem cellOf_some {W : World} {a : Addr} {v : Value} (h : W.cell? a = some v) : W.cell? a = some (cellOf W a) := by
  unfold cellOf; rw [h]; rfl
def mv (i : Nat) : Value := .string (mkT i)
theorem markv_calls (i : Nat) (hi : i ≤ 1000) (W : World) : Calls Tryd.prog 34 #[.int .i64 (i : Int)] W fun e w' => e = .returned (mv i) ∧ Below W.heap.size W w' := (mark_calls i hi W).mono fun e w' ⟨h1, h2⟩ => ⟨h1.trans (congrArg Ending.returned (by unfold mv; rfl)), h2⟩
def Rm (L : Nat → Nat) (X : Nat → List Value) (i : Nat) : Nat → List Value := fun k => if k < i then List.replicate (L k) (mv k) else X k
theorem Rm_lt {L : Nat → Nat} {X : Nat → List Value} {i k : Nat} (h : k < i) : Rm L X i k = List.replicate (L k) (mv k) := if_pos h
theorem Rm_ge {L : Nat → Nat} {X : Nat → List Value} {i k : Nat} (h : ¬ k < i) : Rm L X i k = X k := if_neg h
theorem infoLs : (Tryd.prog.info? 28).map (fun i => (i.zero, i.size, i.bytes)) = some (some (.slice none 0 0), 1, 24) := by kernel_rfl
def Loc (w : World) (u v : Value) : Prop := v.ownBlock = u.ownBlock ∨ ∃ k, v.ownBlock = some k ∧ w.heap.size ≤ k
theorem app_step {wr W W' : World} {u v v' : Value} (hG : wr.grownBy W u.ownBlock) (hg : W.grownBy W' v.ownBlock) (hv : Loc wr u v) (hat : v'.ownBlock = v.ownBlock ∨ v'.ownBlock = some W.heap.size) : wr.grownBy W' u.ownBlock ∧ Loc wr u v' := by
  refine ⟨Go.Proofs.YtmogbkgchhplkabDoor.grown_new hG hg ?_, ?_⟩
  · rcases hv with hv | ⟨k, hk, hle⟩
    · exact Or.inl hv
    · exact Or.inr fun j hj => by rw [hk] at hj; injection hj with hj; omega
  · rcases hat with hat | hat
    · rcases hv with hv | ⟨k, hk, hle⟩
      · exact Or.inl (hat.trans hv)
      · exact Or.inr ⟨k, hat.trans hk, hle⟩
    · exact Or.inr ⟨_, hat, hG.size⟩
theorem grown_refl (w : World) (row : Option Nat) : w.grownBy w row := ⟨rfl, rfl, rfl, Nat.le_refl _, fun _ _ _ => rfl⟩
section
variable {ops : Array Oper} {rest : List Oper} {o : Oper} {a : Act} {Q : Exit → Act → World → Prop} {w : World} {K : Act → World → Prop}
theorem wp_appSh (x y : Operand) (ho : o.op = .call { callee := .builtin .append, args := #[x, y], argTypes := #[28, 28] }) {B : Nat} {v : Value} {xs : List Value} {ad : Addr} {m c : Nat} {ys : List Value} (hx : a.eval x = v) (hrow : Row w B 9 v xs) (hy : a.eval y = .slice (some ad) m c) (hl2 : ys.length = m) (hys : ∀ j u, ys[j]? = some u → w.cell? (ad.add j) = some u) (h1 : ∀ u ∈ ys, u.oneCell' = true)
    (hl : xs.length + m ≤ 1000000000) (hB : B ≤ w.heap.size) (hk : ∀ v' w', Row w' B 9 v' (xs ++ ys) → w.grownBy w' v.ownBlock → (v'.ownBlock = v.ownBlock ∨ v'.ownBlock = some w.heap.size) → Shares w w' 9 v xs ys → K (a.put o.dst v') w') : o.wp Tryd.prog a w K Q := by
  obtain ⟨i0, hi, hz0, hz1, hz2⟩ := info_part infoStr
  obtain ⟨v', w', hr, h2, h3, h4, h5⟩ := run_append_share (P := Tryd.prog) w B 28 o.type 9 i0 (.string ByteArray.empty) 16 Tryd.underlying28 hi hz0 hz1 hz2 rfl v xs hrow ad m c ys hl2 hys h1 (by unfold maxLen; omega) (by omega) hB
  unfold Oper.wp execOp
  simp only [ho, resolve, invoke, builtin, Sem.run_bind, Sem.run_pure, Result.andThen_ok, List.map_toArray, List.map_cons, List.map_nil, hx, hy, hr]
  exact hk v' w' h2 h3 h4 h5
theorem wpList_appSh (hgd : o.guard = none) (x y : Operand) (ho : o.op = .call { callee := .builtin .append, args := #[x, y], argTypes := #[28, 28] }) {B : Nat} {v : Value} {xs : List Value} {ad : Addr} {m c : Nat} {ys : List Value} (hx : a.eval x = v) (hrow : Row w B 9 v xs) (hy : a.eval y = .slice (some ad) m c) (hl2 : ys.length = m) (hys : ∀ j u, ys[j]? = some u → w.cell? (ad.add j) = some u) (h1 : ∀ u ∈ ys, u.oneCell' = true)
    (hl : xs.length + m ≤ 1000000000) (hB : B ≤ w.heap.size) (hk : ∀ v' w', Row w' B 9 v' (xs ++ ys) → w.grownBy w' v.ownBlock → (v'.ownBlock = v.ownBlock ∨ v'.ownBlock = some w.heap.size) → Shares w w' 9 v xs ys → wpList Tryd.prog ops Q rest (a.put o.dst v') w') : wpList Tryd.prog ops Q (o :: rest) a w :=
  wpList_plain hgd fun _ hK => wp_appSh x y ho hx hrow hy hl2 hys h1 hl hB fun v' w' h1 h2 h3 h4 => hK _ _ (hk v' w' h1 h2 h3 h4)
end
/-- What the first i lists have become, lengthened by seventy. -/
def Lg (w : World) (B S : Nat) (U : Nat → Value) (L : Nat → Nat) (ms : List Value) (i : Nat) : Prop :=
  ∀ k, k < i → ∃ u, ms[k]? = some u ∧ Row w B 9 u (longer (mv k) (mv k) (L k) 70) ∧ (u.ownBlock = (U k).ownBlock ∨ ∃ g, u.ownBlock = some g ∧ S ≤ g)
theorem Lg.step {w w' : World} {B S : Nat} {U : Nat → Value} {R : Nat → List Value} {L : Nat → Nat} {ms : List Value} {n i : Nat} (h : Lg w B S U L ms i) (hi : i < n) (hR : Lines w B S 9 U R n) (hg : w.grownBy w' (U i).ownBlock) : Lg w' B S U L ms i := by
  intro k hk
  obtain ⟨u, h1, h2, h3⟩ := h k hk
  refine ⟨u, h1, h2.kept hg ?_, h3⟩
  rcases h3 with h3 | ⟨g, hg1, hg2⟩
  · rw [h3]; exact hR.apart k i (by omega) hi (by omega)
  · refine Or.inr fun e => ?_
    have := hR.hi i hi g (e.symm.trans hg1)
    omega
theorem Lg.lines {w w' : World} {B S : Nat} {U : Nat → Value} {L : Nat → Nat} {ms : List Value} {i : Nat} (h : Lg w B S U L ms i) (hR : ∀ u xs, Row w B 9 u xs → Row w' B 9 u xs) : Lg w' B S U L ms i := by
  intro k hk
  obtain ⟨u, h1, h2, h3⟩ := h k hk
  exact ⟨u, h1, hR _ _ h2, h3⟩
theorem Lg.add {w : World} {B S : Nat} {U : Nat → Value} {L : Nat → Nat} {ms : List Value} {i : Nat} (h : Lg w B S U L ms i) (hm : ms.length = i) {g1 : Value} {wr : World} (hS : S ≤ wr.heap.size)
    (r1 : Row w B 9 g1 (longer (mv i) (mv i) (L i) 70)) (l1 : Loc wr (U i) g1) : Lg w B S U L (ms ++ [g1]) (i + 1) := by
  intro k hk
  by_cases e : k < i
  · obtain ⟨u, h1, h2, h3⟩ := h k e
    exact ⟨u, by rw [List.getElem?_append_left (by omega)]; exact h1, h2, h3⟩
  · obtain rfl : k = i := by omega
    refine ⟨g1, by rw [List.getElem?_append_right (by omega), hm, Nat.sub_self]; rfl, r1, ?_⟩
    rcases l1 with hg | ⟨j, h1, h2⟩
    · exact Or.inl hg
    · exact Or.inr ⟨j, h1, by omega⟩
set_option maxRecDepth 100000 in
set_option maxHeartbeats 8000000 in
theorem marked_some {w : World} {B n gL cL : Nat} {us : List Value} {U : Nat → Value} {X : Nat → List Value} {L : Nat → Nat} (hl : Row w B 28 (.slice (some ⟨gL, 0, none⟩) n cL) us) (hun : us.length = n) (hus : ∀ k, k < n → us[k]? = some (U k)) (hR : Lines w B w.heap.size 9 U X n) (hn : n ≤ 100) (hL : ∀ k, k < n → (X k).length = L k ∧ L k ≤ 3000) (hB : B ≤ w.heap.size) :
    Calls Tryd.prog 20 #[.slice (some ⟨gL, 0, none⟩) n cL] w fun e w' => e = .returned (.bool true) ∧ Below B w w' := by
  have HUN := hide hun
  have HUS := hide hus
  have HLL := hide hL
  have HGL : Hid (0 < n → gL < w.heap.size) := fun h0 => by
    obtain ⟨g', c', e0, _, _, _, hg⟩ := hl.head (by rw [hun]; exact h0)
    injection e0 with e1 e2 e3
    injection e1 with e1
    injection e1 with e1
    rw [e1]; exact hg
  have hcl : n ≤ cL := by
    rcases Nat.eq_zero_or_pos n with h0 | h0
    · rw [h0]; exact Nat.zero_le _
    · obtain ⟨g', c', e0, hc1, _⟩ := hl.head (by rw [hun]; exact h0)
      injection e0 with e1 e2 e3
      rw [hun, ← e3] at hc1
      exact hc1
  obtain ⟨i0, hi, hz0, hz1, hz2⟩ := info_part infoLs
  have HMK : Hid (∀ i : Nat, i ≤ 1000 → ∀ W, Calls Tryd.prog 34 #[.int .i64 (i : Int)] W fun e w' => e = .returned (.string (mkT i)) ∧ Below W.heap.size W w') := fun i hi W => mark_calls i hi W
  clear hun hus hL
  go_enter Tryd.func20, Tryd.ntmps20
  go_wp2_with fail
  go_loopw [3] (fun iv wr => ∃ (i : Nat), i ≤ n ∧ iv = .int .i64 (i : Int) ∧ Row wr B 28 (.slice (some ⟨gL, 0, none⟩) n cL) us ∧ Lines wr B w.heap.size 9 U (Rm L X i) n ∧ Below B w wr) (fun i _ => n - (intOf i).toNat)
  case atStart => exact ⟨0, by omega, rfl, hl, hR.ext fun k hk => Rm_ge (by omega), Below.refl _ _⟩
  case round =>
    obtain ⟨i, hin, rfl, hl1, hR1, ho1⟩ := hrel
    clear hl hR
    by_cases hlt : i < n
    · have hri := hR1.row i hlt
      rw [Rm_ge (by omega)] at hri
      obtain ⟨m, hm⟩ : ∃ m, m = L i := ⟨_, rfl⟩
      obtain ⟨hxl, hmb⟩ := unhide HLL i hlt
      rw [← hm] at hxl hmb
      obtain ⟨a, c, hui⟩ := hri.shape
      rw [hxl] at hui
      have HXL := hide hxl
      have HUI := hide hui
      have HMM := hide hm
      have hiI : (i : Int) < (n : Int) := by omega
      clear hxl hui hm hri
      go_wp2_with fail
      go_loopw [4] (fun jv W => ∃ (j : Nat), j ≤ m ∧ jv = .int .i64 (j : Int) ∧ Row W B 28 (.slice (some ⟨gL, 0, none⟩) n cL) us ∧ Lines W B w.heap.size 9 U (upd (Rm L X i) i (marked (mv i) j (X i))) n ∧ Below B w W) (fun j _ => m - (intOf j).toNat)
      case atStart =>
        refine ⟨0, by omega, rfl, hl1, hR1.ext fun k hk => ?_, ho1⟩
        by_cases e : k = i
        · subst e; rw [upd_same, marked_zero, Rm_ge (by omega)]
        · rw [upd_other _ _ e]
      case round =>
        clear hl1 hR1 ho1
        obtain ⟨j, hj, rfl, hl2, hR2, ho2⟩ := hrel
        have hcell : wr.cell? ⟨gL, i, none⟩ = some (.slice a m c) := by
          rw [hl2.cellAt (by rw [HUN.out]; exact hlt), unhide HUS i hlt, HUI.out]
        by_cases hjm : j < m
        · have hri := hR2.row i hlt
          rw [upd_same, HUI.out] at hri
          have hlen : (marked (mv i) j (X i)).length = m := by rw [marked_len (by rw [HXL.out]; omega), HXL.out]
          obtain ⟨g, c2, hv, hc1, hc2, hgB, hgw⟩ := hri.head (by rw [hlen]; omega)
          rw [hlen] at hc1
          injection hv with e1 e2 e3
          subst e1 e3
          have hold : wr.cell? ⟨g, j, none⟩ = (marked (mv i) j (X i))[j]? := hri.cellAt (by rw [hlen]; exact hjm)
          obtain ⟨old, hold2⟩ : ∃ old, (marked (mv i) j (X i))[j]? = some old := ⟨_, List.getElem?_eq_getElem (by rw [hlen]; exact hjm)⟩
          rw [hold2] at hold
          have hfr := hri.frozenAt j
          have hjI : (j : Int) < (m : Int) := by omega
          have hne : gL ≠ g := by
            have := hl2.apart (hR2.row i hlt) (by decide)
            rw [HUI.out] at this
            rcases this with h | h
            · cases h
            · exact fun e => h (by rw [e]; rfl)
          have HSS : Hid (∀ W, Below wr.heap.size wr W → W.cell? ⟨gL, i, none⟩ = some (.slice (some ⟨g, 0, none⟩) m c) ∧ W.cell? ⟨g, j, none⟩ = some (cellOf W ⟨g, j, none⟩) ∧ W.frozen? ⟨g, j, none⟩ = false) := fun W hW => ⟨(hW.cell (p := ⟨gL, i, none⟩) (World.block_lt_of_cell? wr _ hcell)).trans hcell, cellOf_some ((hW.cell (p := ⟨g, j, none⟩) hgw).trans hold), by
            have e := hW.block g hgw
            unfold World.frozen? at hfr ⊢
            rw [show (⟨g, j, none⟩ : Addr).block = g from rfl] at hfr ⊢
            rw [e]; exact hfr⟩
          have HSA : Hid (∀ (W : World) (v : Value), Below wr.heap.size wr W → (W.setCell ⟨g, j, none⟩ v).cell? ⟨gL, i, none⟩ = some (.slice (some ⟨g, 0, none⟩) m c) ∧ (W.setCell ⟨g, j, none⟩ v).cell? ⟨g, j, none⟩ = some (cellOf (W.setCell ⟨g, j, none⟩ v) ⟨g, j, none⟩) ∧ (W.setCell ⟨g, j, none⟩ v).frozen? ⟨g, j, none⟩ = false) := fun W v hW => by
            obtain ⟨h1, h2, h3⟩ := unhide HSS W hW
            refine ⟨?_, cellOf_some (World.cell?_setCell_same' W _ v (by rw [h2]; rfl)), by rw [World.frozen?_setCell]; exact h3⟩
            rw [World.cell?_setCell_other W ⟨g, j, none⟩ ⟨gL, i, none⟩ v (fun e => hne (by injection e with e; exact e.symm))]
            exact h1
          have HMKi : Hid (∀ W, Below wr.heap.size wr W → Calls Tryd.prog 34 #[.int .i64 (i : Int)] W fun e w' => e = .returned (.string (mkT i)) ∧ Below wr.heap.size wr w') := fun W hW => (unhide HMK i (by omega) W).mono fun e w' ⟨h1, h2⟩ => ⟨h1, hW.trans (h2.mono hW.size)⟩
          clear hold hold2 hfr hlen e2
          go_wp2_with fail
          focus (go_region_held3 (fun W => W.cell? ⟨gL, i, none⟩ = some (.slice (some ⟨g, 0, none⟩) m c) ∧ W.cell? ⟨g, j, none⟩ = some (cellOf W ⟨g, j, none⟩) ∧ W.frozen? ⟨g, j, none⟩ = false)
            (first | (with_reducible refine unhide HSA _ _ ?_; (repeat (first | assumption | exact Below.refl _ _ | refine Below.drew ?_))) | (refine unhide HSS _ ?_; (repeat (first | assumption | exact Below.refl _ _ | refine Below.drew ?_))))
            (first
              | (go_at_call 34; refine (unhide HMKi _ (by repeat (first | assumption | exact Below.refl _ _ | refine Below.drew ?_))).mono ?_; rintro e w9 ⟨rfl, hb9⟩)))
          go_wp2
          go_roundw
          case rel =>
            have hu : (U i).ownBlock = some g := by rw [HUI.out]; rfl
            have hR9 := hR2.below hb9
            have hri9 := hR9.row i hlt
            rw [upd_same, HUI.out] at hri9
            obtain ⟨hs1, hs2⟩ := hri9.set j (mv i)
            rw [marked_set (by rw [HXL.out]; exact hjm)] at hs1
            have hs3 : w9.grownBy (w9.setCell ⟨g, j, none⟩ (mv i)) (U i).ownBlock := by rw [hu]; exact hs2
            have hl9 := row_below hl2 hb9
            have hap := hl9.apart (hR9.row i hlt) (by decide)
            have hB9 : B ≤ wr.heap.size := Nat.le_trans hB ho2.size
            refine ⟨j + 1, by omega, by go_num, hl9.kept hs3 hap, ?_, (ho2.trans (hb9.mono hB9)).setCell (p := ⟨g, j, none⟩) hgB _⟩
            refine (hR9.step hlt hs3 (ys := marked (mv i) (j + 1) (X i)) (by rw [HUI.out]; exact hs1)).ext fun k hk => ?_
            by_cases e : k = i
            · subst e; rw [upd_same, upd_same]
            · rw [upd_other _ _ e, upd_other _ _ e, upd_other _ _ e]
          case measure => simp [intOf]; omega
        · have hjI : ¬ (j : Int) < (m : Int) := by omega
          go_wp2
          go_roundw
          case rel =>
            refine ⟨i + 1, by omega, by go_num, hl2, hR2.ext fun k hk => ?_, ho2⟩
            by_cases e : k = i
            · subst e
              obtain rfl : j = m := by omega
              rw [upd_same, Rm_lt (by omega), ← HMM.out, ← HXL.out, marked_all]
            · rw [upd_other _ _ e]
              by_cases e2 : k < i
              · rw [Rm_lt e2, Rm_lt (by omega)]
              · rw [Rm_ge e2, Rm_ge (by omega)]
          case measure => simp [intOf]; omega
    · obtain rfl : i = n := by omega
      have hiN : ¬ (i : Int) < (i : Int) := by omega
      go_wp2_with fail
      go_loopw [5, 6] (fun mr iv W => ∃ (k : Nat) (ms : List Value), k ≤ i ∧ iv = .int .i64 (k : Int) ∧ ms.length = k ∧ Row W w.heap.size 28 mr ms ∧ Row W B 28 (.slice (some ⟨gL, 0, none⟩) i cL) us ∧ Lines W B w.heap.size 9 U (Rm L X i) i ∧ Lg W B w.heap.size U L ms k ∧ Below B w W) (fun _ k _ => i - (intOf k).toNat)
      case atStart => exact ⟨0, [], by omega, rfl, rfl, Row.nil _ _ _, hl1, hR1, fun k hk => by omega, ho1⟩
      case round =>
        clear hl1 hR1 ho1
        obtain ⟨k, ms, hk, rfl, hms, hmr, hl2, hR2, hlg, ho2⟩ := hrel
        by_cases hlt2 : k < i
        · obtain ⟨m, hm⟩ : ∃ m, m = L k := ⟨_, rfl⟩
          obtain ⟨_, hmb⟩ := unhide HLL k hlt2
          rw [← hm] at hmb
          have hr0 := hR2.row k hlt2
          rw [Rm_lt hlt2, ← hm, ← longer_zero (mv k) (mv k)] at hr0
          obtain ⟨a, c, hui⟩ := hr0.shape
          rw [longer_len, Nat.add_zero] at hui
          have hcell : wr.cell? ⟨gL, k, none⟩ = some (.slice a m c) := by
            rw [hl2.cellAt (by rw [HUN.out]; exact hlt2), unhide HUS k hlt2, hui]
          have hBr : B ≤ wr.heap.size := Nat.le_trans hB ho2.size
          rw [hui] at hr0
          have HMM := hide hm
          have HUI := hide hui
          have HMS := hide hms
          have hszO := ho2.size
          have hkI : (k : Int) < (i : Int) := by omega
          have HMKk : Hid (∀ W, Calls Tryd.prog 34 #[.int .i64 (k : Int)] W fun e w' => e = .returned (.string (mkT k)) ∧ Below W.heap.size W w') := fun W => unhide HMK k (by omega) W
          clear hm hui hms hlt hin
          go_wp2_with fail
          go_loopw [7, 8] (fun gv nv W => ∃ (q : Nat), q ≤ 70 ∧ nv = .int .i64 (q : Int) ∧ wr.grownBy W (Value.slice a m c).ownBlock ∧ Row W B 9 (.slice a m c) (longer (mv k) (mv k) m 0) ∧ Row W B 9 gv (longer (mv k) (mv k) m q) ∧ Loc wr (.slice a m c) gv) (fun _ n _ => 70 - (intOf n).toNat)
          case atStart => exact ⟨0, by omega, rfl, grown_refl _ _, hr0, hr0, Or.inl rfl⟩
          case round =>
            clear hcell hr0
            obtain ⟨q, hq, rfl, hG5, hu5, hw5, hL5⟩ := hrel
            obtain ⟨a5, c5, hs5⟩ := hw5.shape
            rw [longer_len] at hs5
            subst hs5
            have hszG := hG5.size
            by_cases hqz : q < 70
            · have hqI : (q : Int) < 70 := by omega
              have HK := hide (unhide HMKk wr)
              go_wp2_with fail
              refine (unhide HK).mono ?_
              rintro e w9 ⟨rfl, hb9⟩
              have HU6 := hide ((row_below hu5 hb9).grown (World.grownBy_alloc w9 (.cells #[.string (mkT k)] 9) none))
              have HW6 := hide ((row_below hw5 hb9).grown (World.grownBy_alloc w9 (.cells #[.string (mkT k)] 9) none))
              have HG6 := hide ((grown_below hG5 hb9).trans (World.grownBy_alloc w9 (.cells #[.string (mkT k)] 9) _))
              have HC6 := hide (cell_one_new w9 (.string (mkT k)) 9)
              have hszw := hb9.size
              clear hu5 hw5
              go_wp2_with (at_builtin; refine wpList_appSh rfl (.tmp 48) (.tmp 51) rfl rfl (unhide HW6) rfl rfl (unhide HC6) (by intro u hu; simp at hu; subst hu; rfl) (by rw [longer_len]; omega) (by simp; omega) ?_; intro v7 w7 hw7 hg7 hat7 hsh7)
              obtain ⟨hG7, hL7⟩ := app_step HG6.out hg7 hL5 hat7
              have e7 : [Value.string (mkT k)] = List.replicate 1 (mv k) := rfl
              rw [e7] at hw7 hsh7
              have hu7 := hsh7.longer HU6.out
              have hw8 : Row w7 B 9 v7 (longer (mv k) (mv k) m (q + 1)) := by rw [← longer_add]; exact hw7
              refine ⟨⟨q + 1, by omega, by go_num, hG7, hu7, hw8, hL7⟩, ?_⟩
              simp [intOf]; omega
            · obtain ⟨m3, hm3⟩ : ∃ m3, m3 = m + q := ⟨_, rfl⟩
              rw [← hm3] at hw5 hL5 ⊢
              have hq3 : q = 70 := by omega
              rw [hq3] at hw5
              have hqI : ¬ (q : Int) < 70 := by omega
              have hm3b : m3 ≤ 100000 := by omega
              have HM3 := hide hm3
              have hap5 := hmr.apart (hR2.row k hlt2) (by decide)
              rw [HUI.out] at hap5
              have hmrG := hmr.kept hG5 hap5
              clear hq3 hm3
              go_wp2_with (at_builtin; refine wpList_append_own _ rfl _ _ 38 rfl w.heap.size 28 i0 (.slice none 0 0) 1 24 Tryd.underlying38 hi hz0 hz1 hz2 rfl (by decide) _ _ _ rfl (World.ownsRow.alloc hmrG _) ⟨wr.heap.size, 0, none⟩ 1 1 [.slice a5 m3 c5] rfl rfl (cell_one_new _ _ _) (by intro u hu; simp at hu; subst hu; rfl) (by have := HMS.out; unfold maxLen; omega) (by have := HMS.out; omega) (by simp; omega) ?_; intro v8 w8 hw8 hg8 hnil8)
              have hG8 := (World.grownBy_alloc wr _ _).trans hg8
              have hkp : ∀ u xs, Row wr B 9 u xs → Row w8 B 9 u xs := fun u xs h => h.kept hG8 (h.apart hmrG (by decide))
              have hG5' := hG5
              rw [← HUI.out] at hG5'
              have hap6 := hl2.apart (hR2.row k hlt2) (by decide)
              have hgLw : gL < w.heap.size := unhide HGL (by omega)
              have hl8 : Row w8 B 28 (.slice (some ⟨gL, 0, none⟩) i cL) us := (hl2.kept hG5' hap6).kept hG8 (Or.inr fun e => by have := (hmrG.lt gL e.symm).1; omega)
              have hR8 : Lines wr B w.heap.size 9 U (Rm L X i) i := by
                refine (hR2.step hlt2 hG5' (ys := longer (mv k) (mv k) m 0) (by rw [HUI.out]; exact hu5)).ext fun j hj => ?_
                by_cases e : j = k
                · subst e
                  rw [upd_same, longer_zero, Rm_lt hlt2, HMM.out]
                · rw [upd_other _ _ e]
              have hlg8 := hlg.step hlt2 hR2 hG5'
              rw [← HUI.out] at hL5
              have hlg9 := (hlg8.add HMS.out hszO (by rw [← HMM.out]; exact hw5) hL5).lines hkp
              have hbB : Below B w w8 := by
                have h1 : Below B w wr := ho2.grown hG5' hBr (fun g hg => ((hR2.row k hlt2).lt g hg).1)
                exact h1.grown hG8 (Nat.le_trans hBr hszG) (fun g hg => Nat.le_trans hB (hmrG.lt g hg).1)
              refine ⟨⟨k + 1, _, by omega, by go_num, by simp [HMS.out], ?_, hl8, ⟨fun j hj => hkp _ _ (hR8.row j hj), hR8.hi, hR8.apart⟩, hlg9, hbB⟩, ?_⟩
              · unfold Row
                rw [List.length_append]
                exact hw8
              · simp [intOf]; omega
        · obtain rfl : k = i := by omega
          obtain ⟨am, cm, rfl⟩ := hmr.shape
          rw [hms] at hmr ⊢
          have HF : Hid (∀ j, j < k → ∃ gm g c g' c', am = some ⟨gm, 0, none⟩ ∧ k ≤ cm ∧ cm ≤ 9223372036854775807 ∧ wr.cell? ⟨gm, j, none⟩ = some (.slice (some ⟨g', 0, none⟩) (L j + 70) c') ∧ L j + 70 ≤ c' ∧ c' ≤ 9223372036854775807 ∧ wr.cell? ⟨gL, j, none⟩ = some (.slice g (L j) c) ∧ (∀ q, q < L j + 70 → wr.cell? ⟨g', q, none⟩ = some (.string (mkT j))) ∧ (0 < L j → ∃ g2, g = some ⟨g2, 0, none⟩ ∧ L j ≤ c ∧ c ≤ 9223372036854775807 ∧ ∀ q, q < L j → wr.cell? ⟨g2, q, none⟩ = some (.string (mkT j)))) := fun j hj => by
            obtain ⟨gm, cm2, hvm, r1, r2, _, _⟩ := hmr.head (by omega)
            injection hvm with x1 x2 x3
            subst x1 x3
            have hr := hR2.row j hj
            rw [Rm_lt hj] at hr
            obtain ⟨u, hu, hru, _⟩ := hlg j hj
            obtain ⟨a, c, hs⟩ := hr.shape
            rw [List.length_replicate] at hs
            obtain ⟨g', c', hs', s1, s2, _, _⟩ := hru.head (by rw [longer_len]; omega)
            rw [longer_len] at hs' s1
            refine ⟨gm, a, c, g', c', rfl, by omega, r2, ?_, s1, s2, ?_, fun q hq => ?_, fun hp => ?_⟩
            · rw [hmr.cellAt (by rw [hms]; exact hj), hu, hs']
            · rw [hl2.cellAt (by rw [HUN.out]; exact hj), unhide HUS j hj, hs]
            · rw [hs'] at hru
              rw [hru.cellAt (by rw [longer_len]; exact hq), longer_at _ _ hq]
              simp [mv]
            · obtain ⟨g2, c2, hv, t1, t2, _, _⟩ := hr.head (by rw [List.length_replicate]; exact hp)
              rw [hs, List.length_replicate] at hv
              rw [List.length_replicate] at t1
              injection hv with e1 _ e3
              subst e1 e3
              rw [hs] at hr
              refine ⟨g2, rfl, t1, t2, fun q hq => ?_⟩
              rw [hr.cellAt (by rw [List.length_replicate]; exact hq), List.getElem?_replicate, if_pos hq]
              rfl
          have HO2 := hide ho2
          have hBr : B ≤ wr.heap.size := Nat.le_trans hB ho2.size
          obtain ⟨wz, hwz⟩ : ∃ wz, wz = wr := ⟨_, rfl⟩
          rw [← hwz] at HF HO2 hBr
          have HWZ : Hid (Below wz.heap.size wz wr) := by rw [hwz]; exact Below.refl _ _
          clear hmr hl2 hR2 hlg ho2 hwz
          go_wp2_with fail
          go_loopw [9] (fun iv W => ∃ (j : Nat), j ≤ k ∧ iv = .int .i64 (j : Int) ∧ Hid (Below wz.heap.size wz W)) (fun j _ => k - (intOf j).toNat)
          case atStart => exact ⟨0, by omega, rfl, HWZ⟩
          case round =>
            clear HWZ
            obtain ⟨j, hj, rfl, HB1⟩ := hrel
            by_cases hjk : j < k
            · obtain ⟨gm, gq, cq, g', c', rfl, y1, y2, f1, f2, f3, f4, f5, f6⟩ := unhide HF j hjk
              obtain ⟨_, hLj⟩ := unhide HLL j hjk
              generalize L j = m at *
              obtain ⟨y, hy⟩ : ∃ y, y = m + 70 := ⟨_, rfl⟩
              rw [← hy] at f1 f2 f5
              have hyb : y ≤ 100000 := by omega
              have hmy : m ≤ y := by omega
              have hjI : (j : Int) < (k : Int) := by omega
              have F1 : Hid (∀ W, Below wz.heap.size wz W → W.cell? ⟨gm, j, none⟩ = some (.slice (some ⟨g', 0, none⟩) y c')) := fun W h => (h.cell (p := ⟨gm, j, none⟩) (World.block_lt_of_cell? wz _ f1)).trans f1
              have F4 : Hid (∀ W, Below wz.heap.size wz W → W.cell? ⟨gL, j, none⟩ = some (.slice gq m cq)) := fun W h => (h.cell (p := ⟨gL, j, none⟩) (World.block_lt_of_cell? wz _ f4)).trans f4
              have F5 : Hid (∀ W, Below wz.heap.size wz W → ∀ q, q < y → W.cell? ⟨g', q, none⟩ = some (.string (mkT j))) := fun W h q hq => (h.cell (p := ⟨g', q, none⟩) (World.block_lt_of_cell? wz _ (f5 q hq))).trans (f5 q hq)
              have F6 := hide f6
              have HMKj : Hid (∀ W, Below wz.heap.size wz W → Calls Tryd.prog 34 #[.int .i64 (j : Int)] W fun e w' => e = .returned (.string (mkT j)) ∧ Below wz.heap.size wz w') := fun W h => (unhide HMK j (by omega) W).mono fun e w' ⟨h1, h2⟩ => ⟨h1, h.trans (h2.mono h.size)⟩
              have qe : ((mkT j).toList == (mkT j).toList) = true := by simp
              generalize mkT j = mt at *
              clear f1 f4 f5 f6 hy
              go_wp2_with fail
              go_loopw [10] (fun iv W => ∃ (c : Nat), c ≤ y ∧ iv = .int .i64 (c : Int) ∧ Hid (Below wz.heap.size wz W)) (fun c _ => y - (intOf c).toNat)
              case atStart => exact ⟨0, by omega, rfl, HB1⟩
              case round =>
                clear HB1
                obtain ⟨c, hc, rfl, HB2⟩ := hrel
                have e1 := unhide F1 wr HB2.out
                by_cases hcy : c < y
                · have hcI : (c : Int) < (y : Int) := by omega
                  by_cases hcm3 : c < m
                  · obtain ⟨g2, rfl, t1, t2, t3⟩ := unhide F6 (by omega)
                    have hcmI : (c : Int) < (m : Int) := by omega
                    have HSS : Hid (∀ W, Below wz.heap.size wz W → Below wz.heap.size wz W ∧ W.cell? ⟨gm, j, none⟩ = some (.slice (some ⟨g', 0, none⟩) y c') ∧ W.cell? ⟨g', c, none⟩ = some (.string mt) ∧ W.cell? ⟨gL, j, none⟩ = some (.slice (some ⟨g2, 0, none⟩) m cq) ∧ W.cell? ⟨g2, c, none⟩ = some (.string mt)) := fun W h => ⟨h, unhide F1 W h, unhide F5 W h c hcy, unhide F4 W h, (h.cell (p := ⟨g2, c, none⟩) (World.block_lt_of_cell? wz _ (t3 c hcm3))).trans (t3 c hcm3)⟩
                    clear t3
                    go_wp2_with fail
                    focus (go_region_held3 (fun W => Below wz.heap.size wz W ∧ W.cell? ⟨gm, j, none⟩ = some (.slice (some ⟨g', 0, none⟩) y c') ∧ W.cell? ⟨g', c, none⟩ = some (.string mt) ∧ W.cell? ⟨gL, j, none⟩ = some (.slice (some ⟨g2, 0, none⟩) m cq) ∧ W.cell? ⟨g2, c, none⟩ = some (.string mt))
                      ((refine unhide HSS _ ?_; (repeat (first | assumption | exact HB2.out | exact Below.refl _ _ | refine Below.drew ?_))))
                      (first
                        | (go_at_call 34; refine (unhide HMKj _ (by repeat (first | assumption | exact HB2.out | exact Below.refl _ _ | refine Below.drew ?_))).mono ?_; rintro e w9 ⟨rfl, hb9⟩)))
                    go_wp2
                    go_roundw
                    case rel => exact ⟨c + 1, by omega, by go_num, hb9⟩
                    case measure => simp [intOf]; omega
                  · have hcmI : ¬ (c : Int) < (m : Int) := by omega
                    have HSS : Hid (∀ W, Below wz.heap.size wz W → Below wz.heap.size wz W ∧ W.cell? ⟨gm, j, none⟩ = some (.slice (some ⟨g', 0, none⟩) y c') ∧ W.cell? ⟨g', c, none⟩ = some (.string mt) ∧ W.cell? ⟨gL, j, none⟩ = some (.slice gq m cq)) := fun W h => ⟨h, unhide F1 W h, unhide F5 W h c hcy, unhide F4 W h⟩
                    go_wp2_with fail
                    refine wp_region_held_drew (S := fun W => Below wz.heap.size wz W ∧ W.cell? ⟨gm, j, none⟩ = some (.slice (some ⟨g', 0, none⟩) y c') ∧ W.cell? ⟨g', c, none⟩ = some (.string mt) ∧ W.cell? ⟨gL, j, none⟩ = some (.slice gq m cq)) (by kernel_rfl) (unhide HSS _ HB2.out.drew) (fun hHeld => ?_)
                    refine wpAnyH_take (i := 0) (v := .slice (some ⟨gm, 0, none⟩) k cm) rfl (by kernel_rfl) (by kernel_rfl) (by kernel_rfl) (fun _ _ _ h => h) (Or.inl ⟨by rfl, fun w hSw => by obtain ⟨hS0, hS1, hS2, hS3⟩ := hSw; go_simp⟩) (by assumption) ?_
                    simp only [List.getElem_toArray, List.getElem_cons_zero, Act.put, List.setIfInBounds_toArray, List.set_cons_zero, List.set_cons_succ]
                    refine wpAnyH_take (i := 1) (v := .int .i64 (j : Int)) rfl (by kernel_rfl) (by kernel_rfl) (by kernel_rfl) (fun _ _ _ h => h) (Or.inl ⟨by rfl, fun w hSw => by obtain ⟨hS0, hS1, hS2, hS3⟩ := hSw; go_simp⟩) (by assumption) ?_
                    simp only [List.getElem_toArray, List.getElem_cons_succ, List.getElem_cons_zero, Act.put, List.setIfInBounds_toArray, List.set_cons_zero, List.set_cons_succ]
                    refine wpAnyH_take (i := 2) (v := .pointer (some ⟨gm, j, none⟩)) rfl (by kernel_rfl) (by kernel_rfl) (by kernel_rfl) (fun _ _ _ h => h) (Or.inl ⟨by rfl, fun w hSw => by obtain ⟨hS0, hS1, hS2, hS3⟩ := hSw; go_simp⟩) (by assumption) ?_
                    simp only [List.getElem_toArray, List.getElem_cons_succ, List.getElem_cons_zero, Act.put, List.setIfInBounds_toArray, List.set_cons_zero, List.set_cons_succ]
                    refine wpAnyH_take (i := 3) (v := .slice (some ⟨g', 0, none⟩) y c') rfl (by kernel_rfl) (by kernel_rfl) (by kernel_rfl) (fun _ _ _ h => h) (Or.inl ⟨by rfl, fun w hSw => by obtain ⟨hS0, hS1, hS2, hS3⟩ := hSw; go_simp⟩) (by assumption) ?_
                    simp only [List.getElem_toArray, List.getElem_cons_succ, List.getElem_cons_zero, Act.put, List.setIfInBounds_toArray, List.set_cons_zero, List.set_cons_succ]
                    refine wpAnyH_take (i := 4) (v := .int .i64 (c : Int)) rfl (by kernel_rfl) (by kernel_rfl) (by kernel_rfl) (fun _ _ _ h => h) (Or.inl ⟨by rfl, fun w hSw => by obtain ⟨hS0, hS1, hS2, hS3⟩ := hSw; go_simp⟩) (by assumption) ?_
                    simp only [List.getElem_toArray, List.getElem_cons_succ, List.getElem_cons_zero, Act.put, List.setIfInBounds_toArray, List.set_cons_zero, List.set_cons_succ]
                    refine wpAnyH_take (i := 5) (v := .pointer (some ⟨g', c, none⟩)) rfl (by kernel_rfl) (by kernel_rfl) (by kernel_rfl) (fun _ _ _ h => h) (Or.inl ⟨by rfl, fun w hSw => by obtain ⟨hS0, hS1, hS2, hS3⟩ := hSw; go_simp⟩) (by assumption) ?_
                    simp only [List.getElem_toArray, List.getElem_cons_succ, List.getElem_cons_zero, Act.put, List.setIfInBounds_toArray, List.set_cons_zero, List.set_cons_succ]
                    refine wpAnyH_take (i := 6) (v := .string mt) rfl (by kernel_rfl) (by kernel_rfl) (by kernel_rfl) (fun _ _ _ h => h) (Or.inl ⟨by rfl, fun w hSw => by obtain ⟨hS0, hS1, hS2, hS3⟩ := hSw; go_simp⟩) (by assumption) ?_
                    simp only [List.getElem_toArray, List.getElem_cons_succ, List.getElem_cons_zero, Act.put, List.setIfInBounds_toArray, List.set_cons_zero, List.set_cons_succ]
                    refine wpAnyH_take (i := 7) (v := .int .i64 (j : Int)) rfl (by kernel_rfl) (by kernel_rfl) (by kernel_rfl) (fun _ _ _ h => h) (Or.inl ⟨by rfl, fun w hSw => by obtain ⟨hS0, hS1, hS2, hS3⟩ := hSw; go_simp⟩) (by assumption) ?_
                    simp only [List.getElem_toArray, List.getElem_cons_succ, List.getElem_cons_zero, Act.put, List.setIfInBounds_toArray, List.set_cons_zero, List.set_cons_succ]
                    refine wpAnyH_ready (rs := [8]) (by kernel_rfl) (by simp) (AllReadyH.cons rfl (fun K hK => ?_) AllReadyH.nil)
                    refine step_call1G5 (by rfl) 34 mark_enter5 (.tmp 79) _ rfl rfl (unhide HMKj _ HB2.out.drew) ?_
                    rintro e w9 ⟨rfl, hb9⟩
                    refine ⟨_, rfl, ?_⟩
                    refine hK.out _ _ (unhide HSS _ hb9) (fun hHeld2 => ?_)
                    clear hK K
                    simp only [List.getElem_toArray, List.getElem_cons_succ, List.getElem_cons_zero, Act.put, List.setIfInBounds_toArray, List.set_cons_zero, List.set_cons_succ]
                    refine wpAnyH_take (i := 9) (v := .bool false) rfl (by kernel_rfl) (by kernel_rfl) (by kernel_rfl) (fun _ _ _ h => h) (Or.inl ⟨by rfl, fun w hSw => by obtain ⟨hS0, hS1, hS2, hS3⟩ := hSw; go_simp⟩) (by assumption) ?_
                    simp only [List.getElem_toArray, List.getElem_cons_succ, List.getElem_cons_zero, Act.put, List.setIfInBounds_toArray, List.set_cons_zero, List.set_cons_succ]
                    refine wpAnyH_take (i := 10) (v := .bool false) rfl (by kernel_rfl) (by kernel_rfl) (by kernel_rfl) (fun _ _ _ h => h) (Or.inl ⟨by rfl, fun w hSw => by obtain ⟨hS0, hS1, hS2, hS3⟩ := hSw; go_simp⟩) (by assumption) ?_
                    simp only [List.getElem_toArray, List.getElem_cons_succ, List.getElem_cons_zero, Act.put, List.setIfInBounds_toArray, List.set_cons_zero, List.set_cons_succ]
                    refine wpAnyH_take (i := 11) (v := .int .i64 (c : Int)) rfl (by kernel_rfl) (by kernel_rfl) (by kernel_rfl) (fun _ _ _ h => h) (Or.inl ⟨by rfl, fun w hSw => by obtain ⟨hS0, hS1, hS2, hS3⟩ := hSw; go_simp⟩) (by assumption) ?_
                    simp only [List.getElem_toArray, List.getElem_cons_succ, List.getElem_cons_zero, Act.put, List.setIfInBounds_toArray, List.set_cons_zero, List.set_cons_succ]
                    refine wpAnyH_take (i := 12) (v := .slice (some ⟨gL, 0, none⟩) k cL) rfl (by kernel_rfl) (by kernel_rfl) (by kernel_rfl) (fun _ _ _ h => h) (Or.inl ⟨by rfl, fun w hSw => by obtain ⟨hS0, hS1, hS2, hS3⟩ := hSw; go_simp⟩) (by assumption) ?_
                    simp only [List.getElem_toArray, List.getElem_cons_succ, List.getElem_cons_zero, Act.put, List.setIfInBounds_toArray, List.set_cons_zero, List.set_cons_succ]
                    refine wpAnyH_take (i := 13) (v := .int .i64 (j : Int)) rfl (by kernel_rfl) (by kernel_rfl) (by kernel_rfl) (fun _ _ _ h => h) (Or.inl ⟨by rfl, fun w hSw => by obtain ⟨hS0, hS1, hS2, hS3⟩ := hSw; go_simp⟩) (by assumption) ?_
                    simp only [List.getElem_toArray, List.getElem_cons_succ, List.getElem_cons_zero, Act.put, List.setIfInBounds_toArray, List.set_cons_zero, List.set_cons_succ]
                    refine wpAnyH_take (i := 14) (v := .pointer (some ⟨gL, j, none⟩)) rfl (by kernel_rfl) (by kernel_rfl) (by kernel_rfl) (fun _ _ _ h => h) (Or.inl ⟨by rfl, fun w hSw => by obtain ⟨hS0, hS1, hS2, hS3⟩ := hSw; go_simp⟩) (by assumption) ?_
                    simp only [List.getElem_toArray, List.getElem_cons_succ, List.getElem_cons_zero, Act.put, List.setIfInBounds_toArray, List.set_cons_zero, List.set_cons_succ]
                    refine wpAnyH_take (i := 15) (v := .slice gq m cq) rfl (by kernel_rfl) (by kernel_rfl) (by kernel_rfl) (fun _ _ _ h => h) (Or.inl ⟨by rfl, fun w hSw => by obtain ⟨hS0, hS1, hS2, hS3⟩ := hSw; go_simp⟩) (by assumption) ?_
                    simp only [List.getElem_toArray, List.getElem_cons_succ, List.getElem_cons_zero, Act.put, List.setIfInBounds_toArray, List.set_cons_zero, List.set_cons_succ]
                    refine wpAnyH_take (i := 16) (v := .int .i64 (m : Int)) rfl (by kernel_rfl) (by kernel_rfl) (by kernel_rfl) (fun _ _ _ h => h) (Or.inl ⟨by rfl, fun w hSw => by obtain ⟨hS0, hS1, hS2, hS3⟩ := hSw; go_simp⟩) (by assumption) ?_
                    simp only [List.getElem_toArray, List.getElem_cons_succ, List.getElem_cons_zero, Act.put, List.setIfInBounds_toArray, List.set_cons_zero, List.set_cons_succ]
                    refine wpAnyH_take (i := 17) (v := .bool false) rfl (by kernel_rfl) (by kernel_rfl) (by kernel_rfl) (fun _ _ _ h => h) (Or.inl ⟨by rfl, fun w hSw => by obtain ⟨hS0, hS1, hS2, hS3⟩ := hSw; go_simp⟩) (by assumption) ?_
                    simp only [List.getElem_toArray, List.getElem_cons_succ, List.getElem_cons_zero, Act.put, List.setIfInBounds_toArray, List.set_cons_zero, List.set_cons_succ]
                    refine wpAnyH_take (i := 18) (v := .bool false) rfl (by kernel_rfl) (by kernel_rfl) (by kernel_rfl) (fun _ _ _ h => h) (Or.inl ⟨by rfl, fun w hSw => by obtain ⟨hS0, hS1, hS2, hS3⟩ := hSw; go_simp⟩) (by assumption) ?_
                    simp only [List.getElem_toArray, List.getElem_cons_succ, List.getElem_cons_zero, Act.put, List.setIfInBounds_toArray, List.set_cons_zero, List.set_cons_succ]
                    refine wpAnyH_take (i := 19) (v := undef) rfl (by kernel_rfl) (by kernel_rfl) (by kernel_rfl) (fun _ _ _ h => h) (Or.inr ⟨by rfl, rfl⟩) (by assumption) ?_
                    simp only [List.getElem_toArray, List.getElem_cons_succ, List.getElem_cons_zero, Act.put, List.setIfInBounds_toArray, List.set_cons_zero, List.set_cons_succ]
                    refine wpAnyH_take (i := 20) (v := undef) rfl (by kernel_rfl) (by kernel_rfl) (by kernel_rfl) (fun _ _ _ h => h) (Or.inr ⟨by rfl, rfl⟩) (by assumption) ?_
                    simp only [List.getElem_toArray, List.getElem_cons_succ, List.getElem_cons_zero, Act.put, List.setIfInBounds_toArray, List.set_cons_zero, List.set_cons_succ]
                    refine wpAnyH_take (i := 21) (v := undef) rfl (by kernel_rfl) (by kernel_rfl) (by kernel_rfl) (fun _ _ _ h => h) (Or.inr ⟨by rfl, rfl⟩) (by assumption) ?_
                    simp only [List.getElem_toArray, List.getElem_cons_succ, List.getElem_cons_zero, Act.put, List.setIfInBounds_toArray, List.set_cons_zero, List.set_cons_succ]
                    refine wpAnyH_take (i := 22) (v := undef) rfl (by kernel_rfl) (by kernel_rfl) (by kernel_rfl) (fun _ _ _ h => h) (Or.inr ⟨by rfl, rfl⟩) (by assumption) ?_
                    simp only [List.getElem_toArray, List.getElem_cons_succ, List.getElem_cons_zero, Act.put, List.setIfInBounds_toArray, List.set_cons_zero, List.set_cons_succ]
                    refine wpAnyH_take (i := 23) (v := undef) rfl (by kernel_rfl) (by kernel_rfl) (by kernel_rfl) (fun _ _ _ h => h) (Or.inr ⟨by rfl, rfl⟩) (by assumption) ?_
                    simp only [List.getElem_toArray, List.getElem_cons_succ, List.getElem_cons_zero, Act.put, List.setIfInBounds_toArray, List.set_cons_zero, List.set_cons_succ]
                    refine wpAnyH_take (i := 24) (v := undef) rfl (by kernel_rfl) (by kernel_rfl) (by kernel_rfl) (fun _ _ _ h => h) (Or.inr ⟨by rfl, rfl⟩) (by assumption) ?_
                    simp only [List.getElem_toArray, List.getElem_cons_succ, List.getElem_cons_zero, Act.put, List.setIfInBounds_toArray, List.set_cons_zero, List.set_cons_succ]
                    refine wpAnyH_take (i := 25) (v := undef) rfl (by kernel_rfl) (by kernel_rfl) (by kernel_rfl) (fun _ _ _ h => h) (Or.inr ⟨by rfl, rfl⟩) (by assumption) ?_
                    simp only [List.getElem_toArray, List.getElem_cons_succ, List.getElem_cons_zero, Act.put, List.setIfInBounds_toArray, List.set_cons_zero, List.set_cons_succ]
                    refine wpAnyH_take (i := 26) (v := undef) rfl (by kernel_rfl) (by kernel_rfl) (by kernel_rfl) (fun _ _ _ h => h) (Or.inr ⟨by rfl, rfl⟩) (by assumption) ?_
                    simp only [List.getElem_toArray, List.getElem_cons_succ, List.getElem_cons_zero, Act.put, List.setIfInBounds_toArray, List.set_cons_zero, List.set_cons_succ]
                    refine wpAnyH_take (i := 27) (v := undef) rfl (by kernel_rfl) (by kernel_rfl) (by kernel_rfl) (fun _ _ _ h => h) (Or.inr ⟨by rfl, rfl⟩) (by assumption) ?_
                    simp only [List.getElem_toArray, List.getElem_cons_succ, List.getElem_cons_zero, Act.put, List.setIfInBounds_toArray, List.set_cons_zero, List.set_cons_succ]
                    refine wpAnyH_take (i := 28) (v := undef) rfl (by kernel_rfl) (by kernel_rfl) (by kernel_rfl) (fun _ _ _ h => h) (Or.inr ⟨by rfl, rfl⟩) (by assumption) ?_
                    simp only [List.getElem_toArray, List.getElem_cons_succ, List.getElem_cons_zero, Act.put, List.setIfInBounds_toArray, List.set_cons_zero, List.set_cons_succ]
                    refine wpAnyH_take (i := 29) (v := .bool false) rfl (by kernel_rfl) (by kernel_rfl) (by kernel_rfl) (fun _ _ _ h => h) (Or.inl ⟨by rfl, fun w hSw => by obtain ⟨hS0, hS1, hS2, hS3⟩ := hSw; go_simp⟩) (by assumption) ?_
                    simp only [List.getElem_toArray, List.getElem_cons_succ, List.getElem_cons_zero, Act.put, List.setIfInBounds_toArray, List.set_cons_zero, List.set_cons_succ]
                    refine wpAnyH_take (i := 30) (v := .bool false) rfl (by kernel_rfl) (by kernel_rfl) (by kernel_rfl) (fun _ _ _ h => h) (Or.inl ⟨by rfl, fun w hSw => by obtain ⟨hS0, hS1, hS2, hS3⟩ := hSw; go_simp⟩) (by assumption) ?_
                    simp only [List.getElem_toArray, List.getElem_cons_succ, List.getElem_cons_zero, Act.put, List.setIfInBounds_toArray, List.set_cons_zero, List.set_cons_succ]
                    refine wpAnyH_done (by kernel_rfl) ?_ _
                    clear hHeld hHeld2
                    go_wp2
                    go_roundw
                    case rel => exact ⟨c + 1, by omega, by go_num, hb9⟩
                    case measure => simp [intOf]; omega
                · have hcI : ¬ (c : Int) < (y : Int) := by omega
                  go_wp2
                  go_roundw
                  case rel => exact ⟨j + 1, by omega, by go_num, HB2⟩
                  case measure => simp [intOf]; omega
            · have hjI : ¬ (j : Int) < (k : Int) := by omega
              go_wp2
              go_ret
              exact ⟨rfl, (HO2.out).trans ((HB1.out).mono hBr)⟩
end Go.Proofs.YtmogbkgchhplkabDoor
