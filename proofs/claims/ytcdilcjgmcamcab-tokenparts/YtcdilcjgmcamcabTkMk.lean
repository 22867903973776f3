/- marked. -/
import Derived.Test.YtcdilcjgmcamcabTkFa
namespace Go.Proofs.Ytcdilcjgmcamcab
open Go.RowKit Go.Maps Classical

def mk1 (i : Nat) : Tok := mkT (-1 - (i : Int))
def RmT (L : Nat → Nat) (X : Nat → List Tok) (i : Nat) : Nat → List Tok := fun k => if k < i then List.replicate (L k) (mk1 k) else X k
theorem RmT_lt {L : Nat → Nat} {X : Nat → List Tok} {i k : Nat} (h : k < i) : RmT L X i k = List.replicate (L k) (mk1 k) := if_pos h
theorem RmT_ge {L : Nat → Nat} {X : Nat → List Tok} {i k : Nat} (h : ¬ k < i) : RmT L X i k = X k := if_neg h
theorem infoLt : (Try.prog.info? 22).map (fun i => (i.zero, i.size, i.bytes)) = some (some (.slice none 0 0), 1, 24) := by kernel_rfl
def Loc (w : World) (u v : Value) : Prop := v.ownBlock = u.ownBlock ∨ ∃ k, v.ownBlock = some k ∧ w.heap.size ≤ k
theorem app_step {wr W W' : World} {u v v' : Value} (hG : wr.grownBy W u.ownBlock) (hg : W.grownBy W' v.ownBlock) (hv : Loc wr u v) (hat : v'.ownBlock = v.ownBlock ∨ v'.ownBlock = some W.heap.size) : wr.grownBy W' u.ownBlock ∧ Loc wr u v' := by
  refine ⟨Go.Proofs.Ytcdilcjgmcamcab.grown_new hG hg ?_, ?_⟩
  · rcases hv with hv | ⟨k, hk, hle⟩
    · exact Or.inl hv
    · exact Or.inr fun j hj => by rw [hk] at hj; injection hj with hj; omega
  · rcases hat with hat | hat
    · rcases hv with hv | ⟨k, hk, hle⟩
      · exact Or.inl (hat.trans hv)
      · exact Or.inr ⟨k, hat.trans hk, hle⟩
    · exact Or.inr ⟨_, hat, hG.size⟩
theorem grown_refl (w : World) (row : Option Nat) : w.grownBy w row := ⟨rfl, rfl, rfl, Nat.le_refl _, fun _ _ _ => rfl⟩
/-- What the first i lists have become, lengthened by seventy. -/
def LgT (w : World) (B S : Nat) (U : Nat → Value) (L : Nat → Nat) (ms : List Value) (i : Nat) : Prop :=
  ∀ k, k < i → ∃ u, ms[k]? = some u ∧ OwnT w B u (List.replicate (L k + 70) (mk1 k)) ∧ (u.ownBlock = (U k).ownBlock ∨ ∃ g, u.ownBlock = some g ∧ S ≤ g)
theorem LgT.step {w w' : World} {B S : Nat} {U : Nat → Value} {R : Nat → List Tok} {L : Nat → Nat} {ms : List Value} {n i : Nat} (h : LgT w B S U L ms i) (hi : i < n) (hR : LinesT w B S U R n) (hg : w.grownBy w' (U i).ownBlock) : LgT w' B S U L ms i := by
  intro k hk
  obtain ⟨u, h1, h2, h3⟩ := h k hk
  refine ⟨u, h1, h2.kept hg ?_, h3⟩
  rcases h3 with h3 | ⟨g, hg1, hg2⟩
  · rw [h3]; exact hR.apart k i (by omega) hi (by omega)
  · refine Or.inr fun e => ?_
    have := hR.hi i hi g (e.symm.trans hg1)
    omega
theorem LgT.lines {w w' : World} {B S : Nat} {U : Nat → Value} {L : Nat → Nat} {ms : List Value} {i : Nat} (h : LgT w B S U L ms i) (hR : ∀ u xs, OwnT w B u xs → OwnT w' B u xs) : LgT w' B S U L ms i := by
  intro k hk
  obtain ⟨u, h1, h2, h3⟩ := h k hk
  exact ⟨u, h1, hR _ _ h2, h3⟩
theorem LgT.add {w : World} {B S : Nat} {U : Nat → Value} {L : Nat → Nat} {ms : List Value} {i : Nat} (h : LgT w B S U L ms i) (hm : ms.length = i) {g1 : Value} {wr : World} (hS : S ≤ wr.heap.size)
    (r1 : OwnT w B g1 (List.replicate (L i + 70) (mk1 i))) (l1 : Loc wr (U i) g1) : LgT w B S U L (ms ++ [g1]) (i + 1) := by
  intro k hk
  by_cases e : k < i
  · obtain ⟨u, h1, h2, h3⟩ := h k e
    exact ⟨u, by rw [List.getElem?_append_left (by omega)]; exact h1, h2, h3⟩
  · obtain rfl : k = i := by omega
    refine ⟨g1, by rw [List.getElem?_append_right (by omega), hm, Nat.sub_self]; rfl, r1, ?_⟩
    rcases l1 with hg | ⟨j, h1, h2⟩
    · exact Or.inl hg
    · exact Or.inr ⟨j, h1, by omega⟩
/-- The cells of a token. -/
def At4 (W : World) (b o : Nat) (t : Tok) : Prop := W.cell? ⟨b, o, none⟩ = some (.int .i64 t.kind) ∧ W.cell? ⟨b, o + 1, none⟩ = some (.string t.text) ∧ W.cell? ⟨b, o + 2, none⟩ = some (.int .i64 t.line) ∧ W.cell? ⟨b, o + 3, none⟩ = some (.int .i64 t.place)
theorem At4.below {w W : World} {b o : Nat} {t : Tok} (h : At4 w b o t) (hb : Below w.heap.size w W) : At4 W b o t :=
  ⟨(hb.cell (p := ⟨b, o, none⟩) (World.block_lt_of_cell? w ⟨b, o, none⟩ h.1)).trans h.1, (hb.cell (p := ⟨b, o + 1, none⟩) (World.block_lt_of_cell? w ⟨b, o, none⟩ h.1)).trans h.2.1, (hb.cell (p := ⟨b, o + 2, none⟩) (World.block_lt_of_cell? w ⟨b, o, none⟩ h.1)).trans h.2.2.1, (hb.cell (p := ⟨b, o + 3, none⟩) (World.block_lt_of_cell? w ⟨b, o, none⟩ h.1)).trans h.2.2.2⟩
theorem OwnT.at4 {W : World} {B g n c : Nat} {l : List Tok} (h : OwnT W B (.slice (some ⟨g, 0, none⟩) n c) l) (hn : l.length = n) {k : Nat} (hk : k < n) : At4 W g (k * 4) (l.getD k .nul) :=
  ⟨h.cellTk hn hk (j := 0) (by omega), h.cellTk hn hk (j := 1) (by omega), h.cellTk hn hk (j := 2) (by omega), h.cellTk hn hk (j := 3) (by omega)⟩
set_option maxRecDepth 100000 in
set_option maxHeartbeats 8000000 in
theorem marked_some {w : World} {B n gL cL : Nat} {us : List Value} {U : Nat → Value} {X : Nat → List Tok} {L : Nat → Nat} (hl : Row w B 22 (.slice (some ⟨gL, 0, none⟩) n cL) us) (hun : us.length = n) (hus : ∀ k, k < n → us[k]? = some (U k)) (hR : LinesT w B w.heap.size U X n) (hn : n ≤ 100) (hL : ∀ k, k < n → (X k).length = L k ∧ L k ≤ 10000) (hB : B ≤ w.heap.size) :
    Calls Try.prog 19 #[.slice (some ⟨gL, 0, none⟩) n cL] w fun e w' => e = .returned (.bool true) ∧ Below B w w' := by
  have HUN := hide hun
  have HUS := hide hus
  have HLL := hide hL
  have HGL : Hid (0 < n → gL < w.heap.size) := fun h0 => by
    obtain ⟨g', c', e0, _, _, _, hg⟩ := hl.head (by rw [hun]; exact h0)
    injection e0 with e1 e2 e3
    injection e1 with e1
    injection e1 with e1
    rw [e1]; exact hg
  have hcl : n ≤ cL := by
    rcases Nat.eq_zero_or_pos n with h0 | h0
    · rw [h0]; exact Nat.zero_le _
    · obtain ⟨g', c', e0, hc1, _⟩ := hl.head (by rw [hun]; exact h0)
      injection e0 with e1 e2 e3
      rw [hun, ← e3] at hc1
      exact hc1
  obtain ⟨i0, hi, hz0, hz1, hz2⟩ := info_parts infoLt
  clear hun hus hL
  go_enter Try.func19, Try.ntmps19
  go_wp2_with fail
  go_loopw [3] (fun iv wr => ∃ (i : Nat), i ≤ n ∧ iv = .int .i64 (i : Int) ∧ Row wr B 22 (.slice (some ⟨gL, 0, none⟩) n cL) us ∧ LinesT wr B w.heap.size U (RmT L X i) n ∧ Below B w wr) (fun i _ => n - (intOf i).toNat)
  case atStart => exact ⟨0, by omega, rfl, hl, hR.ext fun k hk => RmT_ge (by omega), Below.refl _ _⟩
  case round =>
    obtain ⟨i, hin, rfl, hl1, hR1, ho1⟩ := hrel
    clear hl hR
    by_cases hlt : i < n
    · have hri := hR1.row i hlt
      rw [RmT_ge (by omega)] at hri
      obtain ⟨m, hm⟩ : ∃ m, m = L i := ⟨_, rfl⟩
      obtain ⟨hxl, hmb⟩ := unhide HLL i hlt
      rw [← hm] at hxl hmb
      obtain ⟨a, c, hui⟩ := hri.shape
      rw [hxl] at hui
      have HXL := hide hxl
      have HUI := hide hui
      have HMM := hide hm
      have hiI : (i : Int) < (n : Int) := by omega
      clear hxl hui hm hri
      go_wp2_with fail
      go_loopw [4] (fun jv W => ∃ (j : Nat), j ≤ m ∧ jv = .int .i64 (j : Int) ∧ Row W B 22 (.slice (some ⟨gL, 0, none⟩) n cL) us ∧ LinesT W B w.heap.size U (upd (RmT L X i) i (mkdT (mk1 i) j (X i))) n ∧ Below B w W) (fun j _ => m - (intOf j).toNat)
      case atStart =>
        refine ⟨0, by omega, rfl, hl1, hR1.ext fun k hk => ?_, ho1⟩
        by_cases e : k = i
        · subst e; rw [upd_same, mkdT_zero, RmT_ge (by omega)]
        · rw [upd_other _ _ e]
      case round =>
        clear hl1 hR1 ho1
        obtain ⟨j, hj, rfl, hl2, hR2, ho2⟩ := hrel
        have hcell : wr.cell? ⟨gL, i, none⟩ = some (.slice a m c) := by
          rw [hl2.cellAt (by rw [HUN.out]; exact hlt), unhide HUS i hlt, HUI.out]
        by_cases hjm : j < m
        · have hri := hR2.row i hlt
          rw [upd_same, HUI.out] at hri
          have hlen : (mkdT (mk1 i) j (X i)).length = m := by rw [mkdT_len (by rw [HXL.out]; omega), HXL.out]
          obtain ⟨g, c2, hv, hc1, hc2, hgB, hgw⟩ := hri.front (by rw [hlen]; omega)
          rw [hlen] at hc1
          injection hv with e1 e2 e3
          subst e1 e3
          have hjI : (j : Int) < (m : Int) := by omega
          have HRI := hide hri
          have HLEN := hide hlen
          clear hlen e2 hri
          go_wp2_with (first
            | (refine wpList_putTk rfl (.tmp 35) (.tmp 34) rfl (k := j) (t := mk1 i) rfl rfl HRI.out HLEN.out hjm ?_; intro w9 hw9 hO9 hg9; clear hw9))
          go_roundw
          case rel =>
            have hu : (U i).ownBlock = some g := by rw [HUI.out]; rfl
            rw [mkdT_set (by rw [HXL.out]; exact hjm)] at hO9
            have hs3 : wr.grownBy w9 (U i).ownBlock := by rw [hu]; exact hg9
            have hap := apartR hl2 (hR2.row i hlt) (by decide)
            refine ⟨j + 1, by omega, by go_num, hl2.kept hs3 hap, ?_, ho2.grown hs3 (Nat.le_trans hB ho2.size) (fun b hb => ((hR2.row i hlt).lt b hb).1)⟩
            refine (hR2.step hlt hs3 (ys := mkdT (mk1 i) (j + 1) (X i)) (by rw [HUI.out]; exact hO9)).ext fun k hk => ?_
            by_cases e : k = i
            · subst e; rw [upd_same, upd_same]
            · rw [upd_other _ _ e, upd_other _ _ e, upd_other _ _ e]
          case measure => simp [intOf]; omega
        · have hjI : ¬ (j : Int) < (m : Int) := by omega
          go_wp2
          go_roundw
          case rel =>
            refine ⟨i + 1, by omega, by go_num, hl2, hR2.ext fun k hk => ?_, ho2⟩
            by_cases e : k = i
            · subst e
              obtain rfl : j = m := by omega
              rw [upd_same, RmT_lt (by omega), ← HMM.out, ← HXL.out, mkdT_all]
            · rw [upd_other _ _ e]
              by_cases e2 : k < i
              · rw [RmT_lt e2, RmT_lt (by omega)]
              · rw [RmT_ge e2, RmT_ge (by omega)]
          case measure => simp [intOf]; omega
    · obtain rfl : i = n := by omega
      have hiN : ¬ (i : Int) < (i : Int) := by omega
      go_wp2_with fail
      go_loopw [5, 6] (fun mr iv W => ∃ (k : Nat) (ms : List Value), k ≤ i ∧ iv = .int .i64 (k : Int) ∧ ms.length = k ∧ Row W w.heap.size 22 mr ms ∧ Row W B 22 (.slice (some ⟨gL, 0, none⟩) i cL) us ∧ LinesT W B w.heap.size U (RmT L X i) i ∧ LgT W B w.heap.size U L ms k ∧ Below B w W) (fun _ k _ => i - (intOf k).toNat)
      case atStart => exact ⟨0, [], by omega, rfl, rfl, Row.nil _ _ _, hl1, hR1, fun k hk => by omega, ho1⟩
      case round =>
        clear hl1 hR1 ho1
        obtain ⟨k, ms, hk, rfl, hms, hmr, hl2, hR2, hlg, ho2⟩ := hrel
        by_cases hlt2 : k < i
        · obtain ⟨m, hm⟩ : ∃ m, m = L k := ⟨_, rfl⟩
          obtain ⟨_, hmb⟩ := unhide HLL k hlt2
          rw [← hm] at hmb
          have hr0 := hR2.row k hlt2
          rw [RmT_lt hlt2, ← hm] at hr0
          obtain ⟨a, c, hui⟩ := hr0.shape
          rw [List.length_replicate] at hui
          have hcell : wr.cell? ⟨gL, k, none⟩ = some (.slice a m c) := by
            rw [hl2.cellAt (by rw [HUN.out]; exact hlt2), unhide HUS k hlt2, hui]
          have hBr : B ≤ wr.heap.size := Nat.le_trans hB ho2.size
          rw [hui] at hr0
          have HMM := hide hm
          have HUI := hide hui
          have HMS := hide hms
          have hszO := ho2.size
          have hkI : (k : Int) < (i : Int) := by omega
          clear hm hui hms hlt hin
          go_wp2_with fail
          go_loopw [7, 8] (fun gv nv W => ∃ (q : Nat), q ≤ 70 ∧ nv = .int .i64 (q : Int) ∧ wr.grownBy W (Value.slice a m c).ownBlock ∧ OwnT W B (.slice a m c) (List.replicate m (mk1 k)) ∧ OwnT W B gv (List.replicate (m + q) (mk1 k)) ∧ Loc wr (.slice a m c) gv) (fun _ n _ => 70 - (intOf n).toNat)
          case atStart => exact ⟨0, by omega, rfl, grown_refl _ _, hr0, hr0, Or.inl rfl⟩
          case round =>
            clear hcell hr0
            obtain ⟨q, hq, rfl, hG5, hu5, hw5, hL5⟩ := hrel
            obtain ⟨a5, c5, hs5⟩ := hw5.shape
            rw [List.length_replicate] at hs5
            subst hs5
            have hszG := hG5.size
            by_cases hqz : q < 70
            · have hqI : (q : Int) < 70 := by omega
              have HU6 := hide (hu5.below ((Below.refl wr.heap.size wr).alloc (Nat.le_refl _) (.cells (tkC (mk1 k)).toArray 26)))
              have HW6 := hide (hw5.below ((Below.refl wr.heap.size wr).alloc (Nat.le_refl _) (.cells (tkC (mk1 k)).toArray 26)))
              have HG6 := hide (hG5.trans (World.grownBy_alloc wr (.cells (tkC (mk1 k)).toArray 26) _))
              have HC6 := hide (tok_new wr (mk1 k))
              clear hu5 hw5
              go_wp2_with (at_builtin; refine wpList_appTh rfl (.tmp 50) (.tmp 54) rfl rfl (unhide HW6) rfl (m := [mk1 k]) rfl (unhide HC6) (by simp; omega) (by simp; omega) ?_; intro v7 w7 hw7 hg7 hat7 hsh7)
              obtain ⟨hG7, hL7⟩ := app_step HG6.out hg7 hL5 hat7
              have hu7 := hsh7 _ _ _ HU6.out (fun _ => by simp)
              have hw8 : OwnT w7 B v7 (List.replicate (m + (q + 1)) (mk1 k)) := by rw [← Nat.add_assoc, List.replicate_succ']; exact hw7
              refine ⟨⟨q + 1, by omega, by go_num, hG7, hu7, hw8, hL7⟩, ?_⟩
              simp [intOf]; omega
            · obtain ⟨m3, hm3⟩ : ∃ m3, m3 = m + q := ⟨_, rfl⟩
              rw [← hm3] at hw5 hL5 ⊢
              have hq3 : m3 = m + 70 := by omega
              have hqI : ¬ (q : Int) < 70 := by omega
              have hm3b : m3 ≤ 100000 := by omega
              have HM3 := hide hq3
              have hap5 := apartR hmr (hR2.row k hlt2) (by decide)
              rw [HUI.out] at hap5
              have hmrG := hmr.kept hG5 hap5
              clear hq3 hm3
              go_wp2_with (at_builtin; refine wpList_append_own _ rfl _ _ 43 rfl w.heap.size 22 i0 (.slice none 0 0) 1 24 Try.underlying43 hi hz0 hz1 hz2 rfl (by decide) _ _ _ rfl (World.ownsRow.alloc hmrG _) ⟨wr.heap.size, 0, none⟩ 1 1 [.slice a5 m3 c5] rfl rfl (cell_one_new _ _ _) (by intro u hu; simp at hu; subst hu; rfl) (by have := HMS.out; unfold maxLen; omega) (by have := HMS.out; omega) (by simp; omega) ?_; intro v8 w8 hw8 hg8 hnil8)
              have hG8 := (World.grownBy_alloc wr _ _).trans hg8
              have hkp : ∀ u xs, OwnT wr B u xs → OwnT w8 B u xs := fun u xs h => h.kept hG8 (h.apart hmrG (by decide))
              have hG5' := hG5
              rw [← HUI.out] at hG5'
              have hap6 := apartR hl2 (hR2.row k hlt2) (by decide)
              have hgLw : gL < w.heap.size := unhide HGL (by omega)
              have hl8 : Row w8 B 22 (.slice (some ⟨gL, 0, none⟩) i cL) us := (hl2.kept hG5' hap6).kept hG8 (Or.inr fun e => by have := (hmrG.lt gL e.symm).1; omega)
              have hR8 : LinesT wr B w.heap.size U (RmT L X i) i := by
                refine (hR2.step hlt2 hG5' (ys := List.replicate m (mk1 k)) (by rw [HUI.out]; exact hu5)).ext fun j hj => ?_
                by_cases e : j = k
                · subst e
                  rw [upd_same, RmT_lt hlt2, HMM.out]
                · rw [upd_other _ _ e]
              have hlg8 := hlg.step hlt2 hR2 hG5'
              rw [← HUI.out] at hL5
              have hlg9 := (hlg8.add HMS.out hszO (by rw [← HMM.out, ← HM3.out]; exact hw5) hL5).lines hkp
              have hbB : Below B w w8 := by
                have h1 : Below B w wr := ho2.grown hG5' hBr (fun g hg => ((hR2.row k hlt2).lt g hg).1)
                exact h1.grown hG8 (Nat.le_trans hBr hszG) (fun g hg => Nat.le_trans hB (hmrG.lt g hg).1)
              refine ⟨⟨k + 1, _, by omega, by go_num, by simp [HMS.out], ?_, hl8, ⟨fun j hj => hkp _ _ (hR8.row j hj), hR8.hi, hR8.apart⟩, hlg9, hbB⟩, ?_⟩
              · unfold Row
                rw [List.length_append]
                exact hw8
              · simp [intOf]; omega
        · obtain rfl : k = i := by omega
          obtain ⟨am, cm, rfl⟩ := hmr.shape
          rw [hms] at hmr ⊢
          have HF : Hid (∀ j, j < k → ∃ gm g c g' c', am = some ⟨gm, 0, none⟩ ∧ k ≤ cm ∧ cm ≤ 9223372036854775807 ∧ wr.cell? ⟨gm, j, none⟩ = some (.slice (some ⟨g', 0, none⟩) (L j + 70) c') ∧ L j + 70 ≤ c' ∧ c' ≤ 9223372036854775807 ∧ wr.cell? ⟨gL, j, none⟩ = some (.slice g (L j) c) ∧ (∀ q, q < L j + 70 → At4 wr g' (q * 4) (mk1 j)) ∧ (0 < L j → ∃ g2, g = some ⟨g2, 0, none⟩ ∧ L j ≤ c ∧ c ≤ 9223372036854775807 ∧ ∀ q, q < L j → At4 wr g2 (q * 4) (mk1 j))) := fun j hj => by
            obtain ⟨gm, cm2, hvm, r1, r2, _, _⟩ := hmr.head (by omega)
            injection hvm with x1 x2 x3
            subst x1 x3
            have hr := hR2.row j hj
            rw [RmT_lt hj] at hr
            obtain ⟨u, hu, hru, _⟩ := hlg j hj
            obtain ⟨a, c, hs⟩ := hr.shape
            rw [List.length_replicate] at hs
            obtain ⟨g', c', hs', s1, s2, _, _⟩ := hru.front (by rw [List.length_replicate]; omega)
            rw [List.length_replicate] at hs' s1
            refine ⟨gm, a, c, g', c', rfl, by omega, r2, ?_, s1, s2, ?_, fun q hq => ?_, fun hp => ?_⟩
            · rw [hmr.cellAt (by rw [hms]; exact hj), hu, hs']
            · rw [hl2.cellAt (by rw [HUN.out]; exact hj), unhide HUS j hj, hs]
            · rw [hs'] at hru
              have := hru.at4 (by rw [List.length_replicate]) hq
              rw [rep_get _ hq] at this
              exact this
            · obtain ⟨g2, c2, hv, t1, t2, _, _⟩ := hr.front (by rw [List.length_replicate]; exact hp)
              rw [hs, List.length_replicate] at hv
              rw [List.length_replicate] at t1
              injection hv with e1 _ e3
              subst e1 e3
              rw [hs] at hr
              refine ⟨g2, rfl, t1, t2, fun q hq => ?_⟩
              have := hr.at4 (by rw [List.length_replicate]) hq
              rw [rep_get _ hq] at this
              exact this
          have HO2 := hide ho2
          have hBr : B ≤ wr.heap.size := Nat.le_trans hB ho2.size
          obtain ⟨wz, hwz⟩ : ∃ wz, wz = wr := ⟨_, rfl⟩
          rw [← hwz] at HF HO2 hBr
          have HWZ : Hid (Below wz.heap.size wz wr) := by rw [hwz]; exact Below.refl _ _
          clear hmr hl2 hR2 hlg ho2 hwz
          go_wp2_with fail
          go_loopw [9] (fun iv W => ∃ (j : Nat), j ≤ k ∧ iv = .int .i64 (j : Int) ∧ Hid (Below wz.heap.size wz W)) (fun j _ => k - (intOf j).toNat)
          case atStart => exact ⟨0, by omega, rfl, HWZ⟩
          case round =>
            clear HWZ
            obtain ⟨j, hj, rfl, HB1⟩ := hrel
            by_cases hjk : j < k
            · obtain ⟨gm, gq, cq, g', c', rfl, y1, y2, f1, f2, f3, f4, f5, f6⟩ := unhide HF j hjk
              obtain ⟨_, hLj⟩ := unhide HLL j hjk
              generalize L j = m at *
              obtain ⟨y, hy⟩ : ∃ y, y = m + 70 := ⟨_, rfl⟩
              rw [← hy] at f1 f2 f5
              have hyb : y ≤ 100000 := by omega
              have hmy : m ≤ y := by omega
              have hjI : (j : Int) < (k : Int) := by omega
              have F1 : Hid (∀ W, Below wz.heap.size wz W → W.cell? ⟨gm, j, none⟩ = some (.slice (some ⟨g', 0, none⟩) y c')) := fun W h => (h.cell (p := ⟨gm, j, none⟩) (World.block_lt_of_cell? wz _ f1)).trans f1
              have F4 : Hid (∀ W, Below wz.heap.size wz W → W.cell? ⟨gL, j, none⟩ = some (.slice gq m cq)) := fun W h => (h.cell (p := ⟨gL, j, none⟩) (World.block_lt_of_cell? wz _ f4)).trans f4
              have F5 : Hid (∀ W, Below wz.heap.size wz W → ∀ q, q < y → At4 W g' (q * 4) (mk1 j)) := fun W h q hq => (f5 q hq).below h
              have F6 : Hid (∀ W, Below wz.heap.size wz W → 0 < m → ∃ g2, gq = some ⟨g2, 0, none⟩ ∧ m ≤ cq ∧ cq ≤ 9223372036854775807 ∧ ∀ q, q < m → At4 W g2 (q * 4) (mk1 j)) := fun W h hp => by
                obtain ⟨g2, e1, e2, e3, e4⟩ := f6 hp
                exact ⟨g2, e1, e2, e3, fun q hq => (e4 q hq).below h⟩
              have hnq := tok_neq (mk1 j) (mk1 j)
              have hgd := tok_guard .neq
              rw [decide_eq_true rfl] at hnq
              unfold tkC mk1 mkT at hnq
              simp only at hnq
              clear f1 f4 f5 f6 hy
              obtain ⟨gg, hgg⟩ : ∃ gg, gg = wr.heap.size := ⟨_, rfl⟩
              go_wp2_with fail
              rw [← hgg]
              have HGG : Hid (wz.heap.size ≤ gg) := by show _ ≤ _; rw [hgg]; exact HB1.out.size
              go_loopw [11] (fun iv W => ∃ (c : Nat), c ≤ y ∧ iv = .int .i64 (c : Int) ∧ Hid (At4 W gg 0 (mk1 j) ∧ Below wz.heap.size wz W)) (fun c _ => y - (intOf c).toNat)
              case atStart =>
                refine ⟨0, by omega, rfl, ?_, ?_⟩
                · rw [hgg]
                  refine ⟨?_, ?_, ?_, ?_⟩ <;> simp [mk1, mkT]
                · exact HB1.out.alloc HB1.out.size _
              case round =>
                clear HB1 hgg
                obtain ⟨c, hc, rfl, HB2⟩ := hrel
                have e1 := unhide F1 wr HB2.out.2
                obtain ⟨m0, m1, m2, m3⟩ := HB2.out.1
                unfold mk1 mkT at m0 m1 m2 m3
                simp only at m0 m1 m2 m3
                by_cases hcy : c < y
                · have hcI : (c : Int) < (y : Int) := by omega
                  obtain ⟨x0, x1, x2, x3⟩ := unhide F5 wr HB2.out.2 c hcy
                  unfold mk1 mkT at x0 x1 x2 x3
                  simp only at x0 x1 x2 x3
                  have e4 := unhide F4 wr HB2.out.2
                  by_cases hcm3 : c < m
                  · obtain ⟨g2, rfl, t1, t2, t3⟩ := unhide F6 wr HB2.out.2 (by omega)
                    have hcmI : (c : Int) < (m : Int) := by omega
                    obtain ⟨z0, z1, z2, z3⟩ := t3 c hcm3
                    unfold mk1 mkT at z0 z1 z2 z3
                    simp only at z0 z1 z2 z3
                    clear t3
                    go_wp2_with fail
                    go_quiet (fail)
                    go_wp2
                    go_roundw
                    case rel => exact ⟨c + 1, by omega, by go_num, HB2.out.1.below (drewn_below _ _), HB2.out.2.trans (drewn_b _ _ _)⟩
                    case measure => simp [intOf]; omega
                  · have hcmI : ¬ (c : Int) < (m : Int) := by omega
                    go_wp2_with fail
                    go_quiet (fail)
                    go_wp2
                    go_roundw
                    case rel => exact ⟨c + 1, by omega, by go_num, HB2.out.1.below (drewn_below _ _), HB2.out.2.trans (drewn_b _ _ _)⟩
                    case measure => simp [intOf]; omega
                · have hcI : ¬ (c : Int) < (y : Int) := by omega
                  have HB3 := hide HB2.out.2
                  go_wp2
                  go_roundw
                  case rel => exact ⟨j + 1, by omega, by go_num, HB3⟩
                  case measure => simp [intOf]; omega
            · have hjI : ¬ (j : Int) < (k : Int) := by omega
              go_wp2
              go_ret
              exact ⟨rfl, (HO2.out).trans ((HB1.out).mono hBr)⟩
end Go.Proofs.Ytcdilcjgmcamcab
