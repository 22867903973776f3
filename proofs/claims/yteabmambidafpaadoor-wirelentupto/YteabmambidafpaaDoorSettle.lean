/- Settle of a book of lists of bytes. -/
import Derived.Test.YteabmambidafpaaDoorOnly
namespace Go.Proofs.YteabmambidafpaaDoor
open Go.RowKit

/-- The mark of the i-th list. -/
def qv (i : Nat) : Value := .int .u8 (1 + (i : Int) % 251)
/-- What the first i lists have become, lengthened. -/
def Long1 (w : World) (B S : Nat) (U : Nat → Value) (L : Nat → Nat) (ms : List Value) (i : Nat) : Prop :=
  ∀ k, k < i → ∃ u, ms[k]? = some u ∧ Row w B 5 u (longer (qv k) (qv k) (L k) (L k + 70)) ∧ (u.ownBlock = (U k).ownBlock ∨ ∃ g, u.ownBlock = some g ∧ S ≤ g)
theorem Long1.step {w w' : World} {B S : Nat} {U : Nat → Value} {R : Nat → List Value} {L : Nat → Nat} {ms : List Value} {n i : Nat} (h : Long1 w B S U L ms i) (hi : i < n) (hR : Lines w B S 5 U R n) (hg : w.grownBy w' (U i).ownBlock) : Long1 w' B S U L ms i := by
  intro k hk
  obtain ⟨u, h1, h2, h3⟩ := h k hk
  refine ⟨u, h1, h2.kept hg ?_, h3⟩
  rcases h3 with h3 | ⟨g, hg1, hg2⟩
  · rw [h3]; exact hR.apart k i (by omega) hi (by omega)
  · refine Or.inr fun e => ?_
    have := hR.hi i hi g (e.symm.trans hg1)
    omega
theorem Long1.lines {w w' : World} {B S : Nat} {U : Nat → Value} {L : Nat → Nat} {ms : List Value} {i : Nat} (h : Long1 w B S U L ms i) (hR : ∀ u xs, Row w B 5 u xs → Row w' B 5 u xs) : Long1 w' B S U L ms i := by
  intro k hk
  obtain ⟨u, h1, h2, h3⟩ := h k hk
  exact ⟨u, h1, hR _ _ h2, h3⟩
theorem Long1.add {w : World} {B S : Nat} {U : Nat → Value} {L : Nat → Nat} {ms : List Value} {i : Nat} (h : Long1 w B S U L ms i) (hm : ms.length = i) {g1 : Value} {wr : World} (hS : S ≤ wr.heap.size)
    (r1 : Row w B 5 g1 (longer (qv i) (qv i) (L i) (L i + 70))) (l1 : Loc wr (U i) g1) : Long1 w B S U L (ms ++ [g1]) (i + 1) := by
  intro k hk
  by_cases e : k < i
  · obtain ⟨u, h1, h2, h3⟩ := h k e
    exact ⟨u, by rw [List.getElem?_append_left (by omega)]; exact h1, h2, h3⟩
  · obtain rfl : k = i := by omega
    refine ⟨g1, by rw [List.getElem?_append_right (by omega), hm, Nat.sub_self]; rfl, r1, ?_⟩
    rcases l1 with hg | ⟨j, h1, h2⟩
    · exact Or.inl hg
    · exact Or.inr ⟨j, h1, by omega⟩
def Rq (L : Nat → Nat) (X : Nat → List Value) (i : Nat) : Nat → List Value := fun k => if k < i then List.replicate (L k) (qv k) else X k
theorem Rq_lt {L : Nat → Nat} {X : Nat → List Value} {i k : Nat} (h : k < i) : Rq L X i k = List.replicate (L k) (qv k) := if_pos h
theorem Rq_ge {L : Nat → Nat} {X : Nat → List Value} {i k : Nat} (h : ¬ k < i) : Rq L X i k = X k := if_neg h
theorem isB_one (w : World) (x : Int) (h : 0 ≤ x ∧ x ≤ 255) : IsB (w.alloc (.cells #[.int .u8 x] 5)) (.slice (some ⟨w.heap.size, 0, none⟩) 1 1) [x] := by
  refine ⟨bytes_mem (by simpa using h), some ⟨w.heap.size, 0, none⟩, 1, rfl, Nat.le_refl _, by decide, (fun h => by cases h), fun _ => ⟨w.heap.size, 0, rfl, fun j hj => ?_⟩⟩
  have hj0 : j = 0 := by simpa using hj
  subst hj0
  have := cell_one_new w (.int .u8 x) 5 0 _ rfl
  rwa [Addr.add_lit] at this

set_option maxRecDepth 100000 in
set_option maxHeartbeats 4000000 in
theorem settle_calls {w : World} {B gB M n : Nat} {A : Nat → Prop} {U : Nat → Value} {X : Nat → List Int} (h : Bk w B gB M A n U X) (hM : M ≤ 1000000000) (hn0 : 0 < n) (hn : n ≤ 1000) :
    Calls Tryd.prog 23 #[.pointer (some ⟨gB, 0, none⟩)] w fun e w' => e = .returned (.bool true) ∧ Below B w w' := by
  obtain ⟨i0, hi, hz0, hz1, hz2⟩ := info_parts info23
  have HU := hide (untouched_calls h (by omega))
  have H := hide h
  clear h
  go_enter Tryd.func23, Tryd.ntmps23
  go_wp2_with fail
  refine (unhide HU).mono ?_
  rintro e w0 ⟨rfl, hb0⟩
  have h := (unhide H).widen (A' := A) hb0 (fun g hg => Or.inl hg)
  have hsz0 := hb0.size
  obtain ⟨vL, vW, ls, ks, h1, h2, h3, h4, h5, h6, h7, h8, h9, h10⟩ := h.book
  obtain ⟨hg1, hg2, hg3⟩ := h.low
  obtain ⟨gL, cL, rfl, k1, k2, hgL, hgLw⟩ := h4.head (by omega)
  rw [h2] at k1 h4 h1
  have HB : Hid (∀ W, Out B w0.heap.size w0 W → W.cell? ⟨gB, 0, none⟩ = some (.slice (some ⟨gL, 0, none⟩) n cL)) := fun W hW => by
    have e : W.heap[gB]? = some (.cells #[.slice (some ⟨gL, 0, none⟩) n cL, vW] 45 (0, 0)) := by rw [hW.block gB (by omega) (Or.inl hg1)]; exact h1
    exact cell_of_row W gB 0 _ _ _ e
  have HLS := hide h2
  have H9 := hide h9
  have HOK := hide h.ok
  have hlines := h.lines
  have HLEN : Hid (∀ k, k < n → ((X k).map (Value.int .u8)).length = (X k).length) := fun k hk => by simp
  generalize hLL : (fun k => (X k).length) = L at *
  have HOKL : Hid (∀ k, k < n → L k ≤ M) := fun k hk => by rw [← hLL]; exact (unhide HOK k hk).1
  have HXL : Hid (∀ k, k < n → ((X k).map (Value.int .u8)).length = L k) := fun k hk => by rw [← hLL]; simp
  generalize hXX : (fun k => (X k).map (Value.int .u8)) = XV at *
  have HXV : Hid (∀ k, k < n → (XV k).length = L k) := fun k hk => by rw [← hXX]; exact unhide HXL k hk
  clear h h1 h2 h3 h5 h6 h7 h8 h9 h10 hLL hXX HLEN HXL HOK
  go_wp2_with fail
  go_loopw [3] (fun iv wr => ∃ (i : Nat), i ≤ n ∧ iv = .int .i64 (i : Int) ∧ Row wr B 23 (.slice (some ⟨gL, 0, none⟩) n cL) ls ∧ Lines wr B w0.heap.size 5 U (Rq L XV i) n ∧ Out B w0.heap.size w0 wr) (fun i _ => n - (intOf i).toNat)
  case atStart => exact ⟨0, by omega, rfl, h4, hlines.ext fun k hk => Rq_ge (by omega), Out.refl _ _ _⟩
  case round =>
    obtain ⟨i, hin, rfl, hl1, hR1, ho1⟩ := hrel
    have hcB := unhide HB wr ho1
    by_cases hlt : i < n
    · have hri := hR1.row i hlt
      rw [Rq_ge (by omega)] at hri
      obtain ⟨m, hm⟩ : ∃ m, m = L i := ⟨_, rfl⟩
      have hxl := unhide HXV i hlt
      have hmb := unhide HOKL i hlt
      rw [← hm] at hxl hmb
      obtain ⟨a, c, hui⟩ := hri.shape
      rw [hxl] at hui
      have hcell : wr.cell? ⟨gL, i, none⟩ = some (.slice a m c) := by
        rw [hl1.cellAt (by rw [HLS.out]; exact hlt), unhide H9 i hlt, hui]
      have HXL := hide hxl
      have HUI := hide hui
      have HMM := hide hm
      clear hxl hui hm hri
      go_wp2
      go_loopw [4] (fun jv W => ∃ (j : Nat), j ≤ m ∧ jv = .int .i64 (j : Int) ∧ Row W B 23 (.slice (some ⟨gL, 0, none⟩) n cL) ls ∧ Lines W B w0.heap.size 5 U (upd (Rq L XV i) i (marked (qv i) j (XV i))) n ∧ Out B w0.heap.size w0 W) (fun j _ => m - (intOf j).toNat)
      case atStart =>
        refine ⟨0, by omega, rfl, hl1, hR1.ext fun k hk => ?_, ho1⟩
        by_cases e : k = i
        · subst e; rw [upd_same, marked_zero, Rq_ge (by omega)]
        · rw [upd_other _ _ e]
      case round =>
        clear hcell hcB hl1 hR1 ho1
        obtain ⟨j, hj, rfl, hl2, hR2, ho2⟩ := hrel
        have hcB := unhide HB wr ho2
        have hcell : wr.cell? ⟨gL, i, none⟩ = some (.slice a m c) := by
          rw [hl2.cellAt (by rw [HLS.out]; exact hlt), unhide H9 i hlt, HUI.out]
        by_cases hjm : j < m
        · have hri := hR2.row i hlt
          rw [upd_same, HUI.out] at hri
          have hlen : (marked (qv i) j (XV i)).length = m := by rw [marked_len (by rw [HXL.out]; omega), HXL.out]
          obtain ⟨g, c2, hv, hc1, hc2, _, hgw⟩ := hri.head (by rw [hlen]; omega)
          rw [hlen] at hc1
          injection hv with e1 e2 e3
          subst e1 e3
          have hfr := hri.frozenAt j
          have hst := hri.set j (qv i)
          rw [marked_set (by rw [HXL.out]; exact hjm)] at hst
          have hold : wr.cell? ⟨g, j, none⟩ = (marked (qv i) j (XV i))[j]? := hri.cellAt (by rw [hlen]; exact hjm)
          obtain ⟨old, hold2⟩ : ∃ old, (marked (qv i) j (XV i))[j]? = some old := ⟨_, List.getElem?_eq_getElem (by rw [hlen]; exact hjm)⟩
          rw [hold2] at hold
          have HST := hide hst
          clear hst hold2 hri hlen e2 hc2
          go_wp2
          go_roundw
          case rel =>
            rw [show Value.int .u8 (1 + (i : Int) % 251) = qv i from rfl]
            have hu : (U i).ownBlock = some g := by rw [HUI.out]; rfl
            obtain ⟨hs1, hs2⟩ := HST.out
            have hs3 : wr.grownBy (wr.setCell ⟨g, j, none⟩ (qv i)) (U i).ownBlock := by rw [hu]; exact hs2
            have hap := hl2.apart (hR2.row i hlt) (by decide)
            refine ⟨j + 1, by omega, by go_num, hl2.kept hs3 hap, ?_, ho2.grown hs3 fun k hk => Or.inl ⟨((hR2.row i hlt).lt k hk).1, hR2.hi i hlt k hk⟩⟩
            refine (hR2.step hlt hs3 (ys := marked (qv i) (j + 1) (XV i)) (by rw [HUI.out]; exact hs1)).ext fun k hk => ?_
            by_cases e : k = i
            · subst e; rw [upd_same, upd_same]
            · rw [upd_other _ _ e, upd_other _ _ e, upd_other _ _ e]
          case measure => simp [intOf]; omega
        · go_wp2
          go_roundw
          case rel =>
            refine ⟨i + 1, by omega, by go_num, hl2, hR2.ext fun k hk => ?_, ho2⟩
            by_cases e : k = i
            · subst e
              obtain rfl : j = m := by omega
              rw [upd_same, Rq_lt (by omega), ← HMM.out, ← HXL.out, marked_all]
            · rw [upd_other _ _ e]
              by_cases e2 : k < i
              · rw [Rq_lt e2, Rq_lt (by omega)]
              · rw [Rq_ge e2, Rq_ge (by omega)]
          case measure => simp [intOf]; omega
    · obtain rfl : i = n := by omega
      go_wp2
      go_loopw [5, 6] (fun mr iv W => ∃ (k : Nat) (ms : List Value), k ≤ i ∧ iv = .int .i64 (k : Int) ∧ ms.length = k ∧ Row W w0.heap.size 23 mr ms ∧ Row W B 23 (.slice (some ⟨gL, 0, none⟩) i cL) ls ∧ Lines W B w0.heap.size 5 U (Rq L XV i) i ∧ Long1 W B w0.heap.size U L ms k ∧ Out B w0.heap.size w0 W) (fun _ k _ => i - (intOf k).toNat)
      case atStart => exact ⟨0, [], by omega, rfl, rfl, Row.nil _ _ _, hl1, hR1, fun k hk => by omega, ho1⟩
      case round =>
        clear hl1 hR1 ho1 hcB
        obtain ⟨k, ms, hk, rfl, hms, hmr, hl2, hR2, hlg, ho2⟩ := hrel
        have hcB := unhide HB wr ho2
        by_cases hlt2 : k < i
        · obtain ⟨m, hm⟩ : ∃ m, m = L k := ⟨_, rfl⟩
          have hmb := unhide HOKL k hlt2
          rw [← hm] at hmb
          have hr0 := hR2.row k hlt2
          rw [Rq_lt hlt2, ← hm, ← longer_zero (qv k) (qv k)] at hr0
          obtain ⟨a, c, hui⟩ := hr0.shape
          rw [longer_len, Nat.add_zero] at hui
          have hcell : wr.cell? ⟨gL, k, none⟩ = some (.slice a m c) := by
            rw [hl2.cellAt (by rw [HLS.out]; exact hlt2), unhide H9 k hlt2, hui]
          have hBr : B ≤ wr.heap.size := Nat.le_trans hg2 ho2.size
          rw [hui] at hr0
          have HMM := hide hm
          have HUI := hide hui
          have HMS := hide hms
          have hszO := ho2.size
          clear hm hui hms hlt hin
          have hq0 : (0 : Int) ≤ 1 + (k : Int) % 251 ∧ 1 + (k : Int) % 251 ≤ 255 := by omega
          have HQ0 := hide hq0
          clear hq0
          go_wp2_with fail
          go_loopw [7] (fun gv W => ∃ (q : Nat), q ≤ m + 70 ∧ wr.grownBy W (Value.slice a m c).ownBlock ∧ Row W B 5 (.slice a m c) (longer (qv k) (qv k) m 0) ∧ Row W B 5 gv (longer (qv k) (qv k) m q) ∧ Loc wr (.slice a m c) gv) (fun g _ => 2 * m + 70 - sliceLen g)
          case atStart => exact ⟨0, by omega, grown_refl _ _, hr0, hr0, Or.inl rfl⟩
          case round =>
            clear hcell hcB hr0
            obtain ⟨q, hq, hG5, hu5, hw5, hL5⟩ := hrel
            obtain ⟨a5, c5, hs5⟩ := hw5.shape
            rw [longer_len] at hs5
            subst hs5
            have hszG := hG5.size
            by_cases hq70 : q < m + 70
            · have HU6 := hide (hu5.grown (World.grownBy_alloc wr (.cells #[.int .u8 (1 + (k : Int) % 251)] 5) none))
              have HW6 := hide (hw5.grown (World.grownBy_alloc wr (.cells #[.int .u8 (1 + (k : Int) % 251)] 5) none))
              have HI6 := hide (isB_one wr (1 + (k : Int) % 251) HQ0.out)
              have HG6 := hide (hG5.trans (World.grownBy_alloc wr (.cells #[.int .u8 (1 + (k : Int) % 251)] 5) _))
              clear hu5 hw5
              go_wp2_with (at_builtin; refine wpList_appSh rfl _ _ rfl rfl (unhide HW6) rfl (unhide HI6) (by rw [longer_len]; omega) (by simp; omega) ?_; intro v7 w7 hw7 hg7 hat7 hsh7)
              obtain ⟨hG7, hL7⟩ := app_step HG6.out hg7 hL5 hat7
              have e7 : [1 + (k : Int) % 251].map (Value.int .u8) = List.replicate 1 (qv k) := rfl
              rw [e7] at hw7 hsh7
              have hu7 := hsh7.longer HU6.out
              rw [longer_add] at hw7
              obtain ⟨a7, c7, hs7⟩ := hw7.shape
              rw [longer_len] at hs7
              subst hs7
              refine ⟨⟨q + 1, by omega, hG7, hu7, hw7, hL7⟩, ?_⟩
              simp [sliceLen]; omega
            · obtain ⟨m3, hm3⟩ : ∃ m3, m3 = m + q := ⟨_, rfl⟩
              rw [← hm3] at hw5 hL5 ⊢
              have hq3 : q = m + 70 := by omega
              rw [hq3] at hw5
              have hm3' : 2 * m + 70 ≤ m3 := by omega
              have HM3 := hide hm3
              have hap5 := hmr.apart (hR2.row k hlt2) (by decide)
              rw [HUI.out] at hap5
              have hmrG := hmr.kept hG5 hap5
              clear hq3 hm3
              go_wp2_with (at_builtin; refine wpList_append_own _ rfl _ _ 25 rfl w0.heap.size 23 i0 (.slice none 0 0) 1 24 Tryd.underlying25 hi hz0 hz1 hz2 rfl (by decide) _ _ _ rfl (World.ownsRow.alloc hmrG _) ⟨wr.heap.size, 0, none⟩ 1 1 [.slice a5 m3 c5] rfl rfl (cell_one_new _ _ _) (by intro u hu; simp at hu; subst hu; rfl) (by have := HMS.out; unfold maxLen; omega) (by have := HMS.out; omega) (by simp; omega) ?_; intro v8 w8 hw8 hg8 hnil8)
              have hG8 := (World.grownBy_alloc wr _ _).trans hg8
              have hkp : ∀ u xs, Row wr B 5 u xs → Row w8 B 5 u xs := fun u xs h => h.kept hG8 (h.apart hmrG (by decide))
              have hG5' := hG5
              rw [← HUI.out] at hG5'
              have hap6 := hl2.apart (hR2.row k hlt2) (by decide)
              have hl8 : Row w8 B 23 (.slice (some ⟨gL, 0, none⟩) i cL) ls := (hl2.kept hG5' hap6).kept hG8 (Or.inr fun e => by have := (hmrG.lt gL e.symm).1; omega)
              have hR8 : Lines wr B w0.heap.size 5 U (Rq L XV i) i := by
                refine (hR2.step hlt2 hG5' (ys := longer (qv k) (qv k) m 0) (by rw [HUI.out]; exact hu5)).ext fun j hj => ?_
                by_cases e : j = k
                · subst e
                  rw [upd_same, longer_zero, Rq_lt hlt2, HMM.out]
                · rw [upd_other _ _ e]
              have hlg8 := hlg.step hlt2 hR2 hG5'
              rw [← HUI.out] at hL5
              have hlg9 := (hlg8.add HMS.out hszO (by rw [← HMM.out]; exact hw5) hL5).lines hkp
              refine ⟨⟨k + 1, _, by omega, by go_num, by simp [HMS.out], ?_, hl8, ⟨fun j hj => hkp _ _ (hR8.row j hj), hR8.hi, hR8.apart⟩, hlg9, (ho2.grown hG5' fun j hj => Or.inl ⟨((hR2.row k hlt2).lt j hj).1, hR2.hi k hlt2 j hj⟩).grown hG8 fun j hj => Or.inr (hmrG.lt j hj).1⟩, ?_⟩
              · unfold Row
                rw [List.length_append]
                exact hw8
              · simp [intOf]; omega
        · obtain rfl : k = i := by omega
          obtain ⟨gm, cm, rfl, hcm, hcm2, _, _⟩ := hmr.head (by omega)
          rw [hms] at hcm hmr ⊢
          have HF : Hid (∀ j, j < k → ∃ a m c a' m' c', wr.cell? ⟨gL, j, none⟩ = some (.slice a m c) ∧ wr.cell? ⟨gm, j, none⟩ = some (.slice a' m' c') ∧ Calls Tryd.prog 38 #[.slice a m c, .int .u8 (1 + (j : Int) % 251)] wr (fun e w' => e = .returned (.bool true) ∧ w' = wr) ∧ Calls Tryd.prog 38 #[.slice a' m' c', .int .u8 (1 + (j : Int) % 251)] wr (fun e w' => e = .returned (.bool true) ∧ w' = wr)) := fun j hj => by
            have hr := hR2.row j hj
            rw [Rq_lt hj] at hr
            obtain ⟨u, hu, hru, _⟩ := hlg j hj
            have hru2 : Row wr B 5 u (List.replicate (L j + (L j + 70)) (qv j)) := by
              have e : longer (qv j) (qv j) (L j) (L j + 70) = List.replicate (L j + (L j + 70)) (qv j) := by unfold longer; rw [List.replicate_append_replicate]
              rwa [e] at hru
            obtain ⟨a, c, hs⟩ := hr.shape
            obtain ⟨a', c', hs'⟩ := hru2.shape
            refine ⟨a, _, c, a', _, c', ?_, ?_, by rw [← hs]; exact only_calls hr, by rw [← hs']; exact only_calls hru2⟩
            · rw [hl2.cellAt (by rw [HLS.out]; exact hj), unhide H9 j hj, hs]
            · rw [hmr.cellAt (by rw [hms]; exact hj), hu, hs']
          have hcB := unhide HB wr ho2
          have hoB : Below B w wr := (hb0.mono (by have := (unhide H).low; omega)).trans (ho2.below (Nat.le_refl _) hg2)
          clear hmr hl2 hR2 hlg ho2 hlines h4
          go_wp2
          go_loop [9] (fun iv => ∃ (j : Nat), j ≤ k ∧ iv = .int .i64 (j : Int)) (fun j => k - (intOf j).toNat)
          case atStart => exact ⟨0, by omega, rfl⟩
          case round =>
            obtain ⟨j, hj, rfl⟩ := hrel
            by_cases hjk : j < k
            · obtain ⟨a, m, c, a', m', c', c1, c2, o1, o2⟩ := unhide HF j hjk
              have O1 := hide o1
              have O2 := hide o2
              clear o1 o2
              go_wp2_with fail
              refine (unhide O1).mono ?_
              rintro e w1 ⟨rfl, hw1⟩
              obtain rfl := hw1.symm
              clear hw1
              go_wp2_with fail
              refine (unhide O2).mono ?_
              rintro e w1 ⟨rfl, hw1⟩
              obtain rfl := hw1.symm
              clear hw1
              go_wp2
              go_roundw
              case rel => exact ⟨j + 1, by omega, by go_num⟩
              case measure => simp [intOf]; omega
            · go_wp2
              go_ret
              exact ⟨rfl, hoB⟩
end Go.Proofs.YteabmambidafpaaDoor
