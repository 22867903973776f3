/- What plays answers of a call: true. -/
import Derived.Test.YtmfpkoegpoboiaaDoorPlays0
import Derived.Test.YtmfpkoegpoboiaaDoorOps
namespace Go.Proofs.YtmfpkoegpoboiaaDoor
open Go.RowKit

theorem infoS : (Tryd.prog.info? 27).map (fun i => (i.zero, i.size, i.bytes)) = some (some (.slice none 0 0), 1, 24) := by kernel_rfl
theorem one_sl (a : Option Addr) (n c : Nat) : ∀ u ∈ [Value.slice a n c], u.oneCell' = true := by
  intro u hu
  simp only [List.mem_cons, List.not_mem_nil, or_false] at hu
  subst hu
  rfl

theorem cells_at (w : World) (cs : List Value) (t : TypeId) {g : Nat} (hg : g = w.heap.size) : ∀ j u, cs[j]? = some u → (w.alloc (.cells cs.toArray t)).cell? ((⟨g, 0, none⟩ : Addr).add j) = some u := by
  subst hg
  exact cells_lit w cs t
theorem roomy_sl {w : World} {v : Value} {xs : List Int} (h : IsB w v xs) (hl : xs.length ≤ 140737488351232) :
    Calls Tryd.prog 27 #[v] w fun e w' => ∃ a n c, e = .returned (.slice a n c) ∧ IsB w' (.slice a n c) (xs ++ [201, 202, 203, 204, 205]) ∧ Below w.heap.size w w' := by
  refine (roomy_calls h hl).mono ?_
  rintro e w' ⟨v, rfl, ho, hb⟩
  obtain ⟨a, n, c, rfl⟩ := ho.isB.shape
  exact ⟨a, n, c, rfl, ho.isB, hb⟩
theorem take_getD {α : Type} {l : List α} {k : Nat} {d : α} (h : k < l.length) : l.take (k + 1) = l.take k ++ [l.getD k d] := by
  rw [List.take_add_one, List.getD_eq_getElem?_getD, List.getElem?_eq_getElem h]; rfl

set_option maxRecDepth 100000 in
set_option maxHeartbeats 2000000 in
theorem plays_calls {w : World} {o : OpF} (ho : o.ok w) (ht : Tab w) : Calls Tryd.prog 25 #[.agg o.cells.toArray] w fun e w' => e = .returned (.bool true) ∧ Below w.heap.size w w' := by
  obtain ⟨K, A, N, V, vb, vp, xs, xss⟩ := o
  obtain ⟨hb, hp, hv0, hv1, hn1, hlb, hlp, hlps⟩ := ho
  simp only at hb hp hv0 hv1 hn1 hlb hlp hlps
  obtain ⟨i0, hi, hz0, hz1, hz2⟩ := info_parts infoS
  obtain ⟨a0, n0, c0, rfl⟩ := hb.shape
  have hb' := hb
  have hp' := hp
  obtain ⟨a1, c1, rfl, hl1, hm1, hc1⟩ := hp
  have hn0 := hb.lenEq
  obtain ⟨n1, hn1'⟩ : ∃ n, n = xss.length := ⟨_, rfl⟩
  rw [← hn1'] at hl1 hlp hc1 hp' ⊢
  show Calls Tryd.prog _ #[.agg #[.int .i64 K, .slice a0 n0 c0, .int .i64 A, .int .i64 N, .int .u64 V, .slice a1 n1 c1]] w _
  have hr0 := hb.room
  have HB := hide hb'
  have HP := hide hp'
  have HT := hide ht
  have HN0 := hide hn0
  have HN1 := hide hn1'
  have HLPS := hide hlps
  have HLB := hide hlb
  have HC1 := hide hc1
  clear hb hb' hp' ht hn0 hn1' hlps hlb hc1
  go_enter Tryd.func25, Tryd.ntmps25
  go_wp2_with fail
  have hbw : Below w.heap.size w (w.alloc (.cells #[.int .i64 K, .slice a0 n0 c0, .int .i64 A, .int .i64 N, .int .u64 V, .slice a1 n1 c1] 53)) := (Below.refl _ _).alloc (Nat.le_refl _) _
  have hg : w.heap.size < (w.alloc (.cells #[.int .i64 K, .slice a0 n0 c0, .int .i64 A, .int .i64 N, .int .u64 V, .slice a1 n1 c1] 53)).heap.size := by simp
  have hcl : ∀ f, f < 6 → (w.alloc (.cells #[.int .i64 K, .slice a0 n0 c0, .int .i64 A, .int .i64 N, .int .u64 V, .slice a1 n1 c1] 53)).cell? ⟨w.heap.size, f, none⟩ = #[Value.int .i64 K, .slice a0 n0 c0, .int .i64 A, .int .i64 N, .int .u64 V, .slice a1 n1 c1][f]? := fun f _ => cell_of_row _ w.heap.size f #[.int .i64 K, .slice a0 n0 c0, .int .i64 A, .int .i64 N, .int .u64 V, .slice a1 n1 c1] 53 (0, 0) (heap_alloc_new w _)
  generalize hw0 : w.alloc (.cells #[.int .i64 K, .slice a0 n0 c0, .int .i64 A, .int .i64 N, .int .u64 V, .slice a1 n1 c1] 53) = w0 at *
  clear hw0
  have HCL : Hid (∀ W, Below w0.heap.size w0 W → ∀ f, f < 6 → W.cell? ⟨w.heap.size, f, none⟩ = #[Value.int .i64 K, .slice a0 n0 c0, .int .i64 A, .int .i64 N, .int .u64 V, .slice a1 n1 c1][f]?) := fun W hW f hf => (hW.cell hg).trans (hcl f hf)
  clear hcl
  refine (roomy_calls ((unhide HB).below hbw) (unhide HLB)).mono ?_
  rintro e w1 ⟨u1, rfl, hu1, hb1⟩
  have hd5 := unhide HCL w1 hb1 5 (by decide)
  simp only [List.getElem?_toArray, List.getElem?_cons_succ, List.getElem?_cons_zero] at hd5
  obtain ⟨g, cw, rfl, _, _⟩ := hu1.head (by simp)
  have hu1' := hu1
  obtain ⟨nw, hnw⟩ : ∃ n, n = (xs ++ [201, 202, 203, 204, 205]).length := ⟨_, rfl⟩
  rw [← hnw] at hu1' ⊢
  have HNW := hide hnw
  clear hnw hu1
  go_wp2_with fail
  go_loopw [4, 5, 6] (fun vp vw i wr => ∃ (k : Nat) (ps : List Pr), k ≤ n1 ∧ i = .int .i64 (k : Int) ∧ Pst wr w0.heap.size vw vp ps k ∧ Hid (ps.map Pr.bytes = xss.take k) ∧ Own8 wr w0.heap.size (.slice (some ⟨g, 0, none⟩) nw cw) (xs ++ [201, 202, 203, 204, 205]) ∧ Below w0.heap.size w0 wr)
    (fun _ _ i _ => n1 + 1 - (intOf i).toNat)
  case atStart => exact ⟨0, [], by omega, rfl, Pst.start _ _, by simp [Hid], hu1', hb1⟩
  case round =>
    clear hu1' hb1 hd5
    obtain ⟨k, ps, hk, rfl, hP, HPS, hW, hnx⟩ := hrel
    have hsz := hnx.size
    have hd5 := unhide HCL _ hnx 5 (by decide)
    simp only [List.getElem?_toArray, List.getElem?_cons_succ, List.getElem?_cons_zero] at hd5
    by_cases hkn : k < n1
    · obtain ⟨b, off, rfl, hcell⟩ := unhide HC1 (by omega)
      obtain ⟨u, hcu, hIu⟩ := hcell k hkn
      clear hcell
      obtain ⟨a2, n2, c2, rfl⟩ := hIu.shape
      have hBw := below_step hbw hnx
      have hn2 := hIu.lenEq
      have hl2 : (xss.getD k []).length ≤ 140737488351232 := unhide HLPS _ (by rw [List.getD_eq_getElem?_getD, List.getElem?_eq_getElem (by rw [← HN1.out]; omega)]; exact List.getElem_mem _)
      have hcu1 := (hBw.cell (World.block_lt_of_cell? _ _ hcu)).trans hcu
      have HI := hide hIu
      have HN2 := hide hn2
      have HBW := hide hBw
      have HL2 := hide hl2
      have HCU := hide hcu
      clear hIu hn2 hcu hBw
      go_wp2_with fail
      refine (roomy_calls ((unhide HI).below (unhide HBW)) (unhide HL2)).mono ?_
      rintro e w2 ⟨u2, rfl, hu2, hb2⟩
      obtain ⟨g2, d2, rfl, _, _⟩ := hu2.head (by simp)
      have hr2 := hu2.isB.room
      have hN5 : (xss.getD k [] ++ [201, 202, 203, 204, 205]).length = n2 + 5 := by rw [List.length_append, HN2.out]; rfl
      rw [hN5] at hu2 hr2 ⊢
      have hnx2 := hnx.trans (hb2.mono hsz)
      have hu2' := hu2.mono (B' := w0.heap.size) (by omega)
      have hW2 := hW.below hb2
      have hP2 := hP.below hb2
      have hsz2 := hnx2.size
      have hd52 := unhide HCL _ hnx2 5 (by decide)
      simp only [List.getElem?_toArray, List.getElem?_cons_succ, List.getElem?_cons_zero] at hd52
      have hcu2 := (hb2.cell (World.block_lt_of_cell? _ _ hcu1)).trans hcu1
      clear hu2 hb2 hnx hW hP hsz hd5 hcu1
      have HS3 : Hid (∀ w3 v3, (w2.alloc (.cells #[.slice (some ⟨g2, 0, none⟩) (n2 + 5) d2] 27)).grownBy w3 u5.ownBlock → w3.ownsRow w0.heap.size 27 1 v3 (k + 1) (ps.map Pr.wide ++ [.slice (some ⟨g2, 0, none⟩) (n2 + 5) d2]) →
          Below w0.heap.size w0 w3 ∧ w3.cell? ⟨w.heap.size, 5, none⟩ = some (.slice (some ⟨b, off, none⟩) n1 c1) ∧ w3.cell? ⟨b, off + k, none⟩ = some (.slice a2 n2 c2) ∧ w3.ownsRow w0.heap.size 27 1 u4 k (ps.map Pr.cut) ∧ w0.heap.size ≤ w3.heap.size) := by
        intro w3 v3 hg3 _
        have hnx3 : Below w0.heap.size w0 w3 := (hnx2.alloc hsz2 _).grown hg3 (by simp; omega) (fun j hj => (hP2.wid.lt j hj).1)
        have hal : Below w2.heap.size w2 (w2.alloc (.cells #[.slice (some ⟨g2, 0, none⟩) (n2 + 5) d2] 27)) := (Below.refl _ _).alloc (Nat.le_refl _) _
        have hd := unhide HCL _ hnx3 5 (by decide)
        have hc3 := ((below_step hbw hnx3).cell (World.block_lt_of_cell? _ _ (unhide HCU))).trans (unhide HCU)
        exact ⟨hnx3, hd, hc3, ((hP2.below hal).mid hg3).1, hnx3.size⟩
      go_wp2_with (first
        | (at_builtin; refine wpList_append_own _ rfl _ _ 51 rfl w0.heap.size 27 i0 _ 1 24 Tryd.underlying51 hi hz0 hz1 hz2 rfl (by decide) _ _ _ rfl (hP2.wid.alloc _) ⟨w2.heap.size, 0, none⟩ 1 1 [.slice (some ⟨g2, 0, none⟩) (n2 + 5) d2] rfl rfl (cells_lit _ _ _) (one_sl _ _ _) (by unfold maxLen; omega) (by omega) (by simp; omega) ?_; intro v3 w3 hown3 hgrow3 hnil3; obtain ⟨hnx3, hd53, hcu3, hcut3, hsz3⟩ := unhide HS3 w3 v3 hgrow3 hown3)
        | (at_builtin; refine wpList_append_own _ rfl _ _ 51 rfl w0.heap.size 27 i0 _ 1 24 Tryd.underlying51 hi hz0 hz1 hz2 rfl (by decide) _ _ _ rfl (hcut3.alloc _) ⟨w3.heap.size, 0, none⟩ 1 1 [.slice (some ⟨g2, 0, none⟩) n2 d2] rfl rfl (cells_lit _ _ _) (one_sl _ _ _) (by unfold maxLen; omega) (by omega) (by simp; omega) ?_; intro v4 w4 hown4 hgrow4 hnil4))
      have e2 := HN2.out
      have e1 := HN1.out
      subst e2
      have hal : Below w2.heap.size w2 (w2.alloc (.cells #[.slice (some ⟨g2, 0, none⟩) ((xss.getD k []).length + 5) d2] 27)) := (Below.refl _ _).alloc (Nat.le_refl _) _
      have hal3 : Below w3.heap.size w3 (w3.alloc (.cells #[.slice (some ⟨g2, 0, none⟩) (xss.getD k []).length d2] 27)) := (Below.refl _ _).alloc (Nat.le_refl _) _
      have hS := Pst.step (p := ⟨some ⟨g2, 0, none⟩, d2, xss.getD k []⟩) (hP2.below hal) (hu2'.below hal) hgrow3 hown3 hal3 hgrow4 hown4
      have hW4 := own8_grown ((own8_grown (hW2.below hal) (hP2.below hal).wid hgrow3).below hal3) (hcut3.alloc _) hgrow4
      have hnx4 : Below w0.heap.size w0 w4 := (hnx3.alloc hsz3 _).grown hgrow4 (by simp; omega) (fun j hj => (hcut3.lt j hj).1)
      have hbs : Hid ((ps ++ [(⟨some ⟨g2, 0, none⟩, d2, xss.getD k []⟩ : Pr)]).map Pr.bytes = xss.take (k + 1)) := by
        show List.map Pr.bytes _ = _
        rw [List.map_append, HPS.out, take_getD (d := []) (by omega)]
        rfl
      go_roundw
      case rel => exact ⟨k + 1, _, by omega, by go_num, hS, hbs, hW4, hnx4⟩
      case measure => simp [intOf]; omega
    · obtain rfl : k = n1 := by omega
      clear hkn hk
      have HD : Hid (∀ W, Below w0.heap.size w0 W → W.cell? ⟨w.heap.size, 0, none⟩ = some (.int .i64 K) ∧ W.cell? ⟨w.heap.size, 1, none⟩ = some (.slice a0 n0 c0) ∧ W.cell? ⟨w.heap.size, 2, none⟩ = some (.int .i64 A) ∧ W.cell? ⟨w.heap.size, 3, none⟩ = some (.int .i64 N) ∧ W.cell? ⟨w.heap.size, 4, none⟩ = some (.int .u64 V) ∧ W.cell? ⟨w.heap.size, 5, none⟩ = some (.slice a1 k c1)) := fun W hW =>
        ⟨unhide HCL W hW 0 (by decide), unhide HCL W hW 1 (by decide), unhide HCL W hW 2 (by decide), unhide HCL W hW 3 (by decide), unhide HCL W hW 4 (by decide), unhide HCL W hW 5 (by decide)⟩
      have HS3 : Hid (∀ w3, ((wr.alloc (.cells #[.int .u8 207] 5)).alloc (.cells #[.slice (some ⟨wr.heap.size, 0, none⟩) 1 1] 27)).grownBy w3 u4.ownBlock → Below w0.heap.size w0 w3) := fun w3 hg3 =>
        ((hnx.alloc hsz _).alloc (by simp; omega) _).grown hg3 (by simp; omega) (fun j hj => (hP.cut.lt j hj).1)
      have hrw : n0 + 5 ≤ cw := by
        have h1 := hW.isB.room
        have h2 := HNW.out
        have h3 := HN0.out
        rw [List.length_append, ← h3] at h2
        simp at h2
        omega
      go_wp2_with (first
        | (at_builtin; refine wpList_append_own _ rfl _ _ 51 rfl w0.heap.size 27 i0 _ 1 24 Tryd.underlying51 hi hz0 hz1 hz2 rfl (by decide) _ _ _ rfl ((hP.cut.alloc _).alloc _) ⟨wr.heap.size + 1, 0, none⟩ 1 1 [.slice (some ⟨wr.heap.size, 0, none⟩) 1 1] rfl rfl (cells_at _ _ _ (by simp)) (one_sl _ _ _) (by unfold maxLen; omega) (by omega) (by simp; omega) ?_; intro v3 w3 hown3 hgrow3 hnil3; have hnx3 := unhide HS3 w3 hgrow3; obtain ⟨hq0, hq1, hq2, hq3, hq4, hq5⟩ := unhide HD w3 hnx3; obtain ⟨gp, cp, rfl, hcp, hcpm, hgp, hcells3⟩ := owns_shape hown3 (by omega); have hq1x := (unhide HD _ (hnx3.alloc hnx3.size (.cells #[.int .i64 K, .slice a0 n0 c0, .int .i64 A, .int .i64 N, .int .u64 V, .slice a1 k c1] 53))).2.1; have hq5x := (unhide HD _ (hnx3.alloc hnx3.size (.cells #[.int .i64 K, .slice (some ⟨g, 0, none⟩) n0 cw, .int .i64 A, .int .i64 N, .int .u64 V, .slice a1 k c1] 53))).2.2.2.2.2)
        | fail)
      have hxs : xss.take k = xss := List.take_of_length_le (by rw [← HN1.out]; omega)
      have hbs := HPS.out
      rw [hxs] at hbs
      have hF3 := fin2_of hP hbs (by omega) hgrow3 hown3
      have hW3 := own8_grown ((hW.below ((Below.refl _ _).alloc (Nat.le_refl _) _)).below ((Below.refl _ _).alloc (Nat.le_refl _) _)) ((hP.cut.alloc _).alloc _) hgrow3
      have hal4 : Below w3.heap.size w3 (w3.alloc (.cells #[.int .i64 K, .slice (some ⟨g, 0, none⟩) n0 cw, .int .i64 A, .int .i64 N, .int .u64 V, .slice (some ⟨gp, 0, none⟩) k cp] 53)) := (Below.refl _ _).alloc (Nat.le_refl _) _
      have hnx4 := hnx3.alloc hnx3.size (.cells #[.int .i64 K, .slice (some ⟨g, 0, none⟩) n0 cw, .int .i64 A, .int .i64 N, .int .u64 V, .slice (some ⟨gp, 0, none⟩) k cp] 53)
      have hF4 := hF3.below hal4
      have hW4 := (hW3.below hal4).isB
      have hcutW := hW4.cut (k := n0) (by have h2 := HNW.out; have h3 := HN0.out; rw [List.length_append, ← h3] at h2; omega)
      rw [HN0.out, List.take_left, ← HN0.out] at hcutW
      have hT4 := ((unhide HT).below hbw).below hnx4
      clear hq0 hq1 hq2 hq3 hq4 hq5 hq1x hq5x hown3 hgrow3 hnil3 hcells3 hF3 hW3 hal4 hW hP HPS hbs
      refine (answered_calls ⟨⟨_, _, _, _, _, _, rfl, hcutW, hF4.bb⟩, hv0, hv1, hn1, unhide HLB⟩ hT4).mono ?_
      rintro e w5 ⟨rfl, hb5⟩
      have hF5 := hF4.below hb5
      have hW5 := hW4.below hb5
      have hnx5 := hnx4.trans (hb5.mono hnx4.size)
      obtain ⟨hq0, hq1, hq2, hq3, hq4, hq5⟩ := unhide HD w5 hnx5
      clear hF4 hW4 hcutW hT4 hnx4 hb5 hnx3 hnx
      go_wp2_with fail
      generalize wr.heap.size = s0 at hF5 ⊢
      go_loopw [9, 10] (fun ok i wl => ∃ m : Nat, m ≤ k ∧ ok = .bool true ∧ i = .int .i64 (m : Int) ∧ Below w5.heap.size w5 wl) (fun _ i _ => k + 1 - (intOf i).toNat)
      case atStart => exact ⟨0, by omega, rfl, rfl, Below.refl _ _⟩
      case round =>
        obtain ⟨m, hm, rfl, rfl, hnx6⟩ := hrel
        have hF6 := hF5.below hnx6
        have hW6 := hW5.below hnx6
        have hnx7 := hnx5.trans (hnx6.mono hnx5.size)
        clear hq0 hq1 hq2 hq3 hq4 hq5 hF5 hW5 hnx5 hd5 hsz
        obtain ⟨_, hq1, _, _, _, hq5⟩ := unhide HD _ hnx7
        have hBw := below_step hbw hnx7
        by_cases hmk : m < k
        · obtain ⟨gw, cw2, rfl, hcw2, hrow⟩ := hF6.rows (by omega)
          obtain ⟨a, c, hc1, hI1, hc2, hI2⟩ := hrow m hmk
          obtain ⟨b, off, rfl, hcell⟩ := unhide HC1 (by omega)
          obtain ⟨u, hcu, hIu⟩ := hcell m hmk
          clear hrow hcell
          obtain ⟨a2, n2, c2, rfl⟩ := hIu.shape
          have hn2 := hIu.lenEq
          rw [← hn2] at hc1 hI1 hc2 hI2
          have hl2 : (xss.getD m []).length ≤ 140737488351232 := unhide HLPS _ (by rw [List.getD_eq_getElem?_getD, List.getElem?_eq_getElem (by rw [← HN1.out]; omega)]; exact List.getElem_mem _)
          have hcu1 := (hBw.cell (World.block_lt_of_cell? _ _ hcu)).trans hcu
          have HI1 := hide hI1
          have HI2 := hide hI2
          have HIu := hide (hIu.below hBw)
          have HL2 := hide hl2
          have HCS : Hid (∀ W, Below wr.heap.size wr W → (Below wr.heap.size wr W ∧ W.cell? ⟨gw, m, none⟩ = some (.slice a (n2 + 5) c) ∧ W.cell? ⟨gp, m, none⟩ = some (.slice a n2 c) ∧ W.cell? ⟨w.heap.size, 5, none⟩ = some (.slice (some ⟨b, off, none⟩) k c1) ∧ W.cell? ⟨b, off + m, none⟩ = some (.slice a2 n2 c2))) := fun W hW =>
            ⟨hW, (hW.cell (World.block_lt_of_cell? _ _ hc1)).trans hc1, (hW.cell (World.block_lt_of_cell? _ _ hc2)).trans hc2, (hW.cell (World.block_lt_of_cell? _ _ hq5)).trans hq5, (hW.cell (World.block_lt_of_cell? _ _ hcu1)).trans hcu1⟩
          clear hI1 hI2 hIu hl2 hcu hcu1 hc1 hc2 hq1 hq5 hF6 hW6 hBw hnx7 hn2
          have hq5 := (unhide HCS _ (Below.refl _ _)).2.2.2.1
          go_wp2_with fail
          clear hq5
          have hz1' : (0 : Int) ≤ (m : Int) := by omega
          have hz2' : (m : Int) < (k : Int) + 1 := by omega
          have hz3' : m < k + 1 := by omega
          go_region_held3 (fun W => Below wr.heap.size wr W ∧ W.cell? ⟨gw, m, none⟩ = some (.slice a (n2 + 5) c) ∧ W.cell? ⟨gp, m, none⟩ = some (.slice a n2 c) ∧ W.cell? ⟨w.heap.size, 5, none⟩ = some (.slice (some ⟨b, off, none⟩) k c1) ∧ W.cell? ⟨b, off + m, none⟩ = some (.slice a2 n2 c2))
            ((refine unhide HCS _ ?_; repeat (first | assumption | exact Below.refl _ _ | refine Below.drew ?_)))
            (first
              | (go_at_call 27; refine (roomy_sl (IsB.below (unhide HIu) (by repeat (first | assumption | exact Below.refl _ _ | refine Below.drew ?_))) (unhide HL2)).mono ?_; rintro e w7 ⟨x7, y7, z7, rfl, hI7, hb7⟩; have hB7 : Below wr.heap.size wr w7 := (by first | exact hb7 | exact below_drew hb7))
              | (go_at_call 17; refine (same_yes (IsB.below (unhide HI1) (by repeat (first | assumption | exact Below.refl _ _ | refine Below.drew ?_))) (IsB.below hI7 (by repeat (first | assumption | exact Below.refl _ _ | refine Below.drew ?_)))).mono ?_; rintro e w8 ⟨rfl, hw8⟩; obtain rfl := hw8.symm)
              | (go_at_call 17; refine (same_yes (IsB.below (unhide HI2) (by repeat (first | assumption | exact Below.refl _ _ | refine Below.drew ?_))) (IsB.below (unhide HIu) (by repeat (first | assumption | exact Below.refl _ _ | refine Below.drew ?_)))).mono ?_; rintro e w9 ⟨rfl, hw9⟩; obtain rfl := hw9.symm))
          go_wp2
          go_roundw
          case rel => exact ⟨m + 1, by omega, rfl, by go_num, below_on hnx6 (by repeat (first | assumption | exact Below.refl _ _ | refine Below.drew ?_))⟩
          case measure => simp [intOf]; omega
        · obtain rfl : m = k := by omega
          have hz2' : (m : Int) < (m : Int) + 1 := by omega
          have hlast := hF6.last
          go_wp2_with fail
          refine (roomy_sl ((unhide HB).below hBw) (unhide HLB)).mono ?_
          rintro e w7 ⟨x7, y7, z7, rfl, hI7, hb7⟩
          have hF7 := hF6.below hb7
          have hW7 := hW6.below hb7
          have hl7 := hF7.last
          have hB7 := below_step hBw hb7
          have hq57 := (hb7.cell (World.block_lt_of_cell? _ _ hq5)).trans hq5
          clear hlast hF6 hW6 hq5 hq1 hb7
          go_wp2_with fail
          refine (same_yes hW7 hI7).mono ?_
          rintro e w8 ⟨rfl, hw8⟩
          obtain rfl := hw8.symm
          clear hw8
          go_wp2_with fail
          have hal : Below w7.heap.size w7 (w7.alloc (.cells #[.int .u8 207] 5)) := (Below.refl _ _).alloc (Nat.le_refl _) _
          refine (same_yes (hF7.lastB.below hal) (isB_lit w7 [207] _ rfl 1 rfl (by decide) (by decide))).mono ?_
          rintro e w9 ⟨rfl, hw9⟩
          obtain rfl := hw9.symm
          go_wp2
          go_ret
          exact ⟨rfl, below_step hB7 hal⟩
end Go.Proofs.YtmfpkoegpoboiaaDoor
