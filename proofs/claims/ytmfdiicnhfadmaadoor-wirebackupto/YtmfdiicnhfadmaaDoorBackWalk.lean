/- WireBack's walk. -/
import Derived.Test.YtmfdiicnhfadmaaDoorReads3
import Derived.Test.YtmfdiicnhfadmaaDoorJoin
import Derived.Deep.RegionHeld3
import Derived.Deep.DrawnRows
namespace Go.Proofs.YtmfdiicnhfadmaaDoor
open Go.RowKit
attribute [local go_sem ↓] Go.wp_at_zero Go.wp_at_succ

theorem below_on {w a b : World} (h1 : Below w.heap.size w a) (h2 : Below a.heap.size a b) : Below w.heap.size w b := h1.trans (h2.mono h1.size)
theorem wV_fits {V : Int} {n : Nat} (h0 : 0 ≤ V) (h1 : V ≤ 18446744073709551615) (hn : n ≤ 8) : 0 ≤ wV V n ∧ wV V n < 2 ^ (8 * n) := by
  have hp : (0 : Int) < 2 ^ (8 * n) := Int.pow_pos (by decide)
  by_cases h : n < 8
  · rw [wV_lt h]
    exact ⟨Int.emod_nonneg _ (Int.ne_of_gt hp), Int.emod_lt_of_pos _ hp⟩
  · obtain rfl : n = 8 := by omega
    rw [wV_ge (by decide)]
    have e : (2 : Int) ^ (8 * 8) = 18446744073709551616 := by decide
    rw [e]
    omega

set_option maxRecDepth 100000 in
set_option maxHeartbeats 4000000 in
theorem back_walk (V : Int) {w : World} {vb va vc : Value} {xs pre post : List Int} (h0 : 0 ≤ V) (h1 : V ≤ 18446744073709551615) (hb : IsB w vb xs) (ha : IsB w va pre) (hc : IsB w vc post) (hlb : xs.length ≤ 1048576) (hla : pre.length ≤ 1048576) (hlc : post.length ≤ 1048576) (ht : Tab w) :
    Calls Tryd.prog 7 #[.int .u64 V, vb, va, vc] w fun e w' => e = .returned (.bool true) ∧ Below w.heap.size w w' := by
  have HT := hide ht
  obtain ⟨ba, bm, bcap, rfl⟩ := hb.shape
  obtain ⟨aa, am, acap, rfl⟩ := ha.shape
  obtain ⟨ca, cm, ccap, rfl⟩ := hc.shape
  have HBL := hide hb.lenEq
  have HAL := hide ha.lenEq
  have HB := hide hb
  have HA := hide ha
  have HC := hide hc
  have hbm : bm ≤ 1048576 := by rw [HBL.out]; exact hlb
  have ham : am ≤ 1048576 := by rw [HAL.out]; exact hla
  have HLC := hide hlc
  have HLB := hide hlb
  have HLA := hide hla
  clear ht hb ha hc hlc hlb hla
  go_enter Tryd.func7, Tryd.ntmps7
  go_wp2_with fail
  refine (written_calls V h0 h1 (unhide HB) (by have := HLB.out; omega)).mono ?_
  rintro e w1 ⟨l, es, rfl, hown, hents, hspec, hB1⟩
  have hlen : es.length = 10 := by have := congrArg List.length hspec; rw [List.length_map, wSpec_len] at this; exact this
  rw [hlen] at hown
  obtain ⟨g, cp, rfl, hcp1, hcp2, hg, hcell⟩ := owns_shape hown (by decide)
  have HS := hide hspec
  have HLN := hide hlen
  have HCE := hide hcell
  have HEN := hide hents
  clear hspec hlen hcell hents hown
  have hsz1 := hB1.size
  go_wp2_with fail
  go_loopw [10] (fun i wr => ∃ k : Nat, k ≤ 10 ∧ i = .int .i64 (k : Int) ∧ Below w1.heap.size w1 wr) (fun i _ => 10 - (intOf i).toNat)
  case atStart => exact ⟨0, by omega, rfl, Below.refl _ _⟩
  case round =>
    obtain ⟨k, hk, rfl, hnx⟩ := hrel
    by_cases hlt : k < 10
    · have hki : k < es.length := by rw [HLN.out]; exact hlt
      obtain ⟨E, hE⟩ : ∃ E, E = es[k] := ⟨_, rfl⟩
      have hO := (unhide HEN E (by rw [hE]; exact List.getElem_mem hki)).below hnx
      have hI := hO.isB
      have hc : ∀ f, f < 4 → wr.cell? ⟨g, k * 4 + f, none⟩ = E.cells[f]? := by
        intro f hf
        have h1 := unhide HCE (k * 4 + f) (by omega)
        rw [Nat.mul_comm k 4, entCells_at hki hf, ← hE, Nat.mul_comm 4 k] at h1
        have h2 : ∃ u, E.cells[f]? = some u := ⟨_, List.getElem?_eq_getElem (by simp [Ent.cells]; omega)⟩
        obtain ⟨u, hu⟩ := h2
        rw [hu] at h1 ⊢
        exact (hnx.cell (p := ⟨g, k * 4 + f, none⟩) (World.block_lt_of_cell? w1 _ h1)).trans h1
      have hsort := sort_at HS.out hki
      rw [← hE] at hsort
      obtain ⟨ev, ew, en, evv, eb⟩ := E
      have hc0 := hc 0 (by omega)
      have hc1 := hc 1 (by omega)
      have hc2 := hc 2 (by omega)
      have hc3 := hc 3 (by omega)
      simp only [Ent.cells, Ent.sort, List.getElem?_cons_zero, List.getElem?_cons_succ, Nat.add_zero] at hc0 hc1 hc2 hc3 hsort hI
      obtain ⟨ea, el, ec, rfl⟩ := hI.shape
      have hel := hI.lenEq
      have hepl : 0 < el ∧ el ≤ 1048590 := by
        rw [hel]
        rcases hsort with ⟨_, hs⟩ | ⟨_, hs⟩ | ⟨n, hn1, hn8, hs⟩
        · simp only [Prod.mk.injEq] at hs
          rw [hs.2.2.2]
          exact ⟨uBytes_pos _, by have := uBytes_le V; omega⟩
        · simp only [Prod.mk.injEq] at hs
          rw [hs.2.2.2]
          exact ⟨bB_pos _, by have := bB_len xs; have := HLB.out; omega⟩
        · simp only [Prod.mk.injEq] at hs
          rw [hs.2.2.2, fB_len]
          omega
      obtain ⟨hep, hep2⟩ := hepl
      have hBr := below_on hB1 hnx
      have HI := hide hI
      have HEL := hide hel
      have HSO := hide hsort
      have HC0 := hide hc0
      have HC1 := hide hc1
      have HC2 := hide hc2
      have HC3 := hide hc3
      clear hc hel hsort hI hO hE hki hc1 hc2 hc3
      go_wp2_with fail
      have hbs := isBB_lit wr [.slice aa am acap, .slice ea el ec, .slice ca cm ccap] [pre, eb, post] _ rfl 3 rfl rfl (by decide) (fun j hj => by
        match j, hj with
        | 0, _ => exact (unhide HA).below hBr
        | 1, _ => exact unhide HI
        | 2, _ => exact (unhide HC).below hBr)
      have hn2 : Below wr.heap.size wr (wr.alloc (.cells #[.slice aa am acap, .slice ea el ec, .slice ca cm ccap] 34)) := (Below.refl _ _).alloc (Nat.le_refl _) _
      refine (join_calls hbs (fun x hx => by
        simp only [List.flatten_cons, List.flatten_nil, List.append_nil, List.mem_append] at hx
        rcases hx with hx | hx | hx
        · exact (unhide HA).mem x hx
        · exact (unhide HI).mem x hx
        · exact (unhide HC).mem x hx) (by
        simp only [List.flatten_cons, List.flatten_nil, List.append_nil, List.length_append]
        rw [← HEL.out]
        have := HLA.out
        have := HLC.out
        omega)).mono ?_
      rintro e w3 ⟨a3, n3, c3, rfl, hO3, hb3⟩
      have hB3 : Below wr.heap.size wr w3 := below_on hn2 hb3
      have hAL : IsB w3 (.slice a3 n3 c3) (pre ++ (eb ++ post)) := by have := hO3.isB; simpa using this
      have HALL := hide hAL
      have hcS : ∀ W, Below w3.heap.size w3 W → (Below w3.heap.size w3 W ∧ W.cell? ⟨g, k * 4, none⟩ = some (.slice ea el ec) ∧ W.cell? ⟨g, k * 4 + 1, none⟩ = some (.int .i64 ew) ∧ W.cell? ⟨g, k * 4 + 2, none⟩ = some (.int .i64 en) ∧ W.cell? ⟨g, k * 4 + 3, none⟩ = some (.int .u64 evv)) := by
        intro W hW
        have hBW := below_on hB3 hW
        refine ⟨hW, ?_, ?_, ?_, ?_⟩
        · exact (hBW.cell (World.block_lt_of_cell? wr _ (unhide HC0))).trans (unhide HC0)
        · exact (hBW.cell (World.block_lt_of_cell? wr _ (unhide HC1))).trans (unhide HC1)
        · exact (hBW.cell (World.block_lt_of_cell? wr _ (unhide HC2))).trans (unhide HC2)
        · exact (hBW.cell (World.block_lt_of_cell? wr _ (unhide HC3))).trans (unhide HC3)
      have HCS := hide hcS
      obtain ⟨Q, hQ⟩ : ∃ Q, Q = am + el := ⟨_, rfl⟩
      have hwrp : IntKind.i64.wrap ((am : Int) + (el : Int)) = (Q : Int) := by rw [IntKind.wrap_i64, hQ]; omega
      have hrd : ∀ W, Below w3.heap.size w3 W → Calls Tryd.prog 18 #[.slice a3 n3 c3, .int .i64 (am : Int), .agg #[.slice ea el ec, .int .i64 ew, .int .i64 en, .int .u64 evv], .slice ba bm bcap, .int .i64 (Q : Int)] W fun e w' => e = .returned (.bool true) ∧ Below W.heap.size W w' := by
        intro W hW
        have hIA := (unhide HALL).below hW
        have hIB := (unhide HB).below (below_on (below_on hBr hB3) hW)
        have eA : (am : Int) = (pre.length : Int) := by rw [HAL.out]
        have eQ : (Q : Int) = (pre.length : Int) + (eb.length : Int) := by rw [hQ, HAL.out, HEL.out]; omega
        rcases unhide HSO with ⟨-, hs⟩ | ⟨-, hs⟩ | ⟨n, hn1, hn8, hs⟩
        · simp only [Prod.mk.injEq] at hs
          obtain ⟨rfl, rfl, rfl, rfl⟩ := hs
          exact reads_u hIA (by rw [eA, eQ]; exact rdU_back h0 (top9 h1))
        · simp only [Prod.mk.injEq] at hs
          obtain ⟨rfl, rfl, rfl, rfl⟩ := hs
          have hxl := HLB.out
          exact reads_b hIA hIB (by simp only [List.length_append]; have := bB_len xs; have := HLA.out; have := HLC.out; omega) (by omega) (by rw [eA, eQ]; exact rdB_back (by omega) (by omega)) (by rw [eA, eQ]; exact rdB_back (by omega) (by omega))
        · simp only [Prod.mk.injEq] at hs
          obtain ⟨rfl, rfl, rfl, rfl⟩ := hs
          have hv := wV_fits h0 h1 hn8
          exact reads_f hIA (by rw [eA, eQ, fB_len]; exact rdF_back hv.1 hn1 hn8 hv.2)
      have HRD := hide hrd
      have hel0 : ((el : Int) == 0) = false := by simp; omega
      have hK0 : (0 : Int) ≤ (k : Int) := by omega
      have hK1 : (k : Int) < 10 := by omega
      clear hbs hn2 hO3 hb3 hAL hcS hc0 hrd hQ
      go_wp2_with fail
      go_region_held3 (fun W => Below w3.heap.size w3 W ∧ W.cell? ⟨g, k * 4, none⟩ = some (.slice ea el ec) ∧ W.cell? ⟨g, k * 4 + 1, none⟩ = some (.int .i64 ew) ∧ W.cell? ⟨g, k * 4 + 2, none⟩ = some (.int .i64 en) ∧ W.cell? ⟨g, k * 4 + 3, none⟩ = some (.int .u64 evv))
        ((refine unhide HCS _ ?_; first | exact Below.refl _ _ | exact (Below.refl _ _).drew | exact below_drew (by assumption) | assumption))
        (first
          | (go_at_call 18; refine (unhide HRD _ ?_).mono ?_; exact (Below.refl _ _).drew; rintro e w4 ⟨rfl, hb4⟩))
      go_wp2
      go_roundw
      case rel => exact ⟨k + 1, by omega, by go_num, below_on (below_on hnx hB3) (below_drew hb4)⟩
      case measure => simp [intOf]; omega
    · go_wp2_with fail
      have hB := below_on hB1 hnx
      refine (started_calls _ ((unhide HT).below hB)).mono ?_
      rintro e w5 ⟨rfl, hb5⟩
      go_wp2
      go_ret
      exact ⟨rfl, below_on hB hb5⟩
end Go.Proofs.YtmfdiicnhfadmaaDoor
