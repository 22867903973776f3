/- chain's statements: a scene that may be. chain's statements: room. chain's statements: all: what Reads tell of every sector. chain: Get and Put, refused. -/
import Derived.Test.YtdalbalphagmfaaGreatDoorSG
import Derived.Test.YtdalbalphagmfaaGreatDoorSH
import Derived.Test.YtdalbalphagmfaaGreatDoorRK
import Derived.Test.YtdalbalphagmfaaGreatDoorRI
namespace Go.Proofs.YtdalbalphagmfaaGreatDoor
open Go.RowKit Go.Maps

/-- A slice of sectors' numbers and bytes. -/
structure IsSpots (w : World) (v : Value) (l : List (Int × List Int)) : Prop where
 val : ∃ a cap, v = .slice a l.length cap ∧ l.length ≤ cap ∧ cap ≤ 9223372036854775807 ∧ (0 < l.length → ∃ b off, a = some ⟨b, off, none⟩ ∧ ∀ j, j < l.length → w.cell? ⟨b, off + j * 2, none⟩ = some (.int .i64 (l.getD j (0, [])).1) ∧ ∃ u, w.cell? ⟨b, off + j * 2 + 1, none⟩ = some u ∧ IsB w u (l.getD j (0, [])).2)
/-- What lies on the sectors. -/
def laidI (n : Nat) (ims : List (List Int)) (l : List (Int × List Int)) : List (List Int) := l.foldl (fun ims s => ims.set (wholeI s.1 0 ((n : Int) - 1)).toNat (sec6 s.2)) ims
def takenW (fr to_ : Nat) (ws : List Nat) (l : List Int) : List Nat := l.foldl (fun ws t => claimW fr to_ ws (wholeI t (fr : Int) ((to_ : Int) - 1))) ws
theorem laidI_step {n j : Nat} {ims : List (List Int)} {raw : List (Int × List Int)} {x : Int × List Int} (h : raw[j]? = some x) : laidI n ims (raw.take (j + 1)) = (laidI n ims (raw.take j)).set (wholeI x.1 0 ((n : Int) - 1)).toNat (sec6 x.2) := by
 unfold laidI
 rw [List.take_add_one, h, List.foldl_append]
 rfl
theorem laidI_len (n : Nat) (l : List (Int × List Int)) : ∀ ims : List (List Int), (laidI n ims l).length = ims.length := by
 induction l with
 | nil => intro ims; rfl
 | cons x l ih => intro ims; exact (ih _).trans (List.length_set ..)
theorem spots_len {w : World} {ra : Option Addr} {rn rc : Nat} {raw : List (Int × List Int)} (h : IsSpots w (.slice ra rn rc) raw) : rn = raw.length := by
 obtain ⟨a, cap, e, _⟩ := h.val
 injection e
theorem isT_len {w : World} {ra : Option Addr} {rn rc : Nat} {tk : List Int} (h : IsT w (.slice ra rn rc) tk) : rn = tk.length := by
 obtain ⟨a, cap, e, _⟩ := h.val
 injection e
theorem spot_at {w : World} {ra : Option Addr} {rn rc j : Nat} {raw : List (Int × List Int)} (h : IsSpots w (.slice ra rn rc) raw) (hj : j < rn) :
 ∃ rb ro xn ba bn bc xb, ra = some ⟨rb, ro, none⟩ ∧ w.cell? ⟨rb, ro + j * 2, none⟩ = some (.int .i64 xn) ∧ w.cell? ⟨rb, ro + j * 2 + 1, none⟩ = some (.slice ba bn bc) ∧ IsB w (.slice ba bn bc) xb ∧ raw[j]? = some (xn, xb) := by
 obtain ⟨a, cap, e, h1, h2, h3⟩ := h.val
 injection e with e1 e2 e3
 obtain ⟨b, off, q1, q2⟩ := h3 (by omega)
 obtain ⟨q3, u, q4, q5⟩ := q2 j (by omega)
 obtain ⟨a2, m2, c2, rfl⟩ := q5.shape
 have hg : raw[j]? = some (raw.getD j (0, [])) := by
  rw [List.getD_eq_getElem?_getD, List.getElem?_eq_getElem (by omega)]
  rfl
 exact ⟨b, off, _, a2, m2, c2, _, e1.trans q1, q3, q4, q5, hg⟩
def takenR (fr to_ : Nat) (bs : List Bool) (l : List Int) : List Bool := l.foldl (fun bs t => claimR fr to_ bs (wholeI t (fr : Int) ((to_ : Int) - 1))) bs
theorem takenW_step {fr to_ j : Nat} {ws : List Nat} {tk : List Int} {x : Int} (h : tk[j]? = some x) : takenW fr to_ ws (tk.take (j + 1)) = claimW fr to_ (takenW fr to_ ws (tk.take j)) (wholeI x (fr : Int) ((to_ : Int) - 1)) := by
 unfold takenW
 rw [List.take_add_one, h, List.foldl_append]
 rfl
theorem takenR_step {fr to_ j : Nat} {bs : List Bool} {tk : List Int} {x : Int} (h : tk[j]? = some x) : takenR fr to_ bs (tk.take (j + 1)) = claimR fr to_ (takenR fr to_ bs (tk.take j)) (wholeI x (fr : Int) ((to_ : Int) - 1)) := by
 unfold takenR
 rw [List.take_add_one, h, List.foldl_append]
 rfl
def frI (sn fn : Int) : Nat := (wholeI fn 0 (wholeI sn 2 200 + 3)).toNat
def toI (sn fn tn : Int) : Nat := frI sn fn + (wholeI tn 1 (wholeI sn 2 200 + 4)).toNat
theorem isT_at {w : World} {ra : Option Addr} {rn rc j : Nat} {tk : List Int} (h : IsT w (.slice ra rn rc) tk) (hj : j < rn) :
 ∃ rb ro xn, ra = some ⟨rb, ro, none⟩ ∧ w.cell? ⟨rb, ro + j, none⟩ = some (.int .i64 xn) ∧ tk[j]? = some xn := by
 obtain ⟨a, cap, e, h1, h2, h3⟩ := h.val
 injection e with e1 e2 e3
 obtain ⟨b, off, q1, q2⟩ := h3 (by omega)
 have hg : tk[j]? = some (tk.getD j 0) := by
  rw [List.getD_eq_getElem?_getD, List.getElem?_eq_getElem (by omega)]
  rfl
 exact ⟨b, off, _, e1.trans q1, q2 j (by omega), hg⟩
set_option maxRecDepth 100000 in
set_option maxHeartbeats 8000000 in
theorem laid_calls {w : World} {sn fn tn : Int} {ra ta : Option Addr} {rn rc tl tc : Nat} {raw : List (Int × List Int)} {tk : List Int} (hr : IsSpots w (.slice ra rn rc) raw) (htk : IsT w (.slice ta tl tc) tk) (hT : TT w) :
 Calls Tryz.prog 6 #[.agg #[.int .i64 sn, .slice ra rn rc, .int .i64 fn, .int .i64 tn, .slice ta tl tc]] w fun e w' => ∃ gx p gl gm V m1 g gw m2 gr gb, e = .returned (.pointer (some ⟨gx, 0, none⟩)) ∧
  Ld w w.heap.size gx [.int .i64 sn, .slice ra rn rc, .int .i64 fn, .int .i64 tn, .slice ta tl tc] w' (laidI (wholeI sn 2 200).toNat (List.replicate (wholeI sn 2 200).toNat zsec) (raw.take 400)) p gl gm V m1 g gw m2 gr gb (frI sn fn) (toI sn fn tn) (takenW (frI sn fn) (toI sn fn tn) (newW (toI sn fn tn - frI sn fn)) (tk.take 400)) (takenR (frI sn fn) (toI sn fn tn) (List.replicate (toI sn fn tn - frI sn fn) true) (tk.take 400)) := by
 obtain ⟨n, hn⟩ : ∃ n : Nat, wholeI sn 2 200 = (n : Int) := ⟨(wholeI sn 2 200).toNat, by have := wholeI_in sn (show (2 : Int) ≤ 200 by omega); omega⟩
 have hn2 : 2 ≤ n ∧ n ≤ 200 := by have := wholeI_in sn (show (2 : Int) ≤ 200 by omega); omega
 have HWH := hide (fun W => whole6_calls sn (show (0 : Int) ≤ 2 by omega) (show (2 : Int) ≤ 200 by omega) (by omega) W)
 rw [hn] at HWH
 obtain ⟨hn2a, hn2b⟩ := hn2
 have HR := hide hr
 have HTK := hide htk
 have HT := hide hT
 have HN := hide hn
 clear hr htk hT hn
 go_enter Tryz.func6, Tryz.ntmps6
 go_wp2_with fail
 refine (unhide HWH _).mono ?_
 rintro e w1 ⟨rfl, hw1⟩
 have hA1 : Arr w1 w.heap.size 25 [.int .i64 sn, .slice ra rn rc, .int .i64 fn, .int .i64 tn, .slice ta tl tc] := by rw [hw1]; exact Arr.new _ _ _
 have hb1 : Below w.heap.size w w1 := by rw [hw1]; exact (Below.refl _ _).alloc (Nat.le_refl _) _
 obtain ⟨w2, hw2⟩ : ∃ w2, w1.alloc (.cells #[.pointer none, .pointer none, .slice none 0 0, .pointer none] 47) = w2 := ⟨_, rfl⟩
 obtain ⟨gx, hgx⟩ : ∃ gx, w1.heap.size = gx := ⟨_, rfl⟩
 obtain ⟨SC, hSC⟩ : ∃ SC : List Value, [.int .i64 sn, .slice ra rn rc, .int .i64 fn, .int .i64 tn, .slice ta tl tc] = SC := ⟨_, rfl⟩
 have HSC := hide hSC
 obtain ⟨B, hB⟩ : ∃ B, w.heap.size = B := ⟨_, rfl⟩
 have HB := hide hB
 have hL0 : L6 w B gx SC (.pointer none) (.pointer none) (.pointer none) w2 (List.replicate 0 zsec) := by
  rw [hSC, hB] at hA1
  rw [hB] at hb1
  refine ⟨⟨none, 0, [], ?_, Im.nil _ _⟩, ?_, ?_, ?_, ?_⟩
  · rw [← hw2, ← hgx]; exact Arr.new _ _ _
  · rw [← hw2]; exact hA1.alloc _
  · rw [← hw2]; exact hb1.alloc (by rw [← hB]; exact hb1.size) _
  · rw [← hgx, ← hB]; exact hb1.size
  · rw [← hw2, ← hB]; exact Nat.le_trans hb1.size ((Below.refl 0 w1).alloc (Nat.zero_le _) _).size
 have HL0 := hide hL0
 have HW2 := hide hw2
 have HGX := hide hgx
 clear hL0 hw2 hgx hSC hB hA1 hb1 hw1
 go_wp2_with fail
 rw [HW2.out, HGX.out, HB.out]
 clear HW2 HGX
 go_loopw [5] (fun i wr => ∃ k : Nat, k ≤ n ∧ i = .int .i64 (k : Int) ∧ Hid (L6 w B gx SC (.pointer none) (.pointer none) (.pointer none) wr (List.replicate k zsec))) (fun i _ => n - (intOf i).toNat)
 case atStart => exact ⟨0, by omega, rfl, HL0⟩
 case round =>
  clear HL0
  obtain ⟨k, hk, rfl, HL⟩ := hrel
  by_cases hlt : k < n
  · have HD := hide (HL.out.below (W1 := wr.drew) (Below.refl _ _).drew)
    obtain ⟨a, c, us, c2, _, _, _, _, hI, hA⟩ := HD.out.cells
    have HUS : Hid (us.length = k) := by have := hI.len; rw [List.length_replicate] at this; exact hide this
    rw [List.length_replicate] at c2 hI hA
    have HI := hide hI
    have HA := hide hA
    clear hI hA
    go_wp2_with fail
    refine wp_region_held_drew (S := fun _ => True) (by kernel_rfl) (trivial) (fun hHeld => ?_)
    refine wpAnyH_take (i := 0) (v := .pointer (some ⟨gx, 0, none⟩)) rfl (by kernel_rfl) (by kernel_rfl) (by kernel_rfl) (fun _ _ _ h => h) (Or.inl ⟨by rfl, fun w hSw => by go_simp⟩) (by assumption) ?_
    simp only [fGa, fGz, Act.put, fSa, fSz, fSs]
    refine wpAnyH_take (i := 1) (v := .pointer (some ⟨gx, 0, none⟩)) rfl (by kernel_rfl) (by kernel_rfl) (by kernel_rfl) (fun _ _ _ h => h) (Or.inl ⟨by rfl, fun w hSw => by go_simp⟩) (by assumption) ?_
    simp only [fGa, fGs, fGz, Act.put, fSa, fSz, fSs]
    refine wpAnyH_take (i := 2) (v := .pointer (some ⟨gx, 0, none⟩)) rfl (by kernel_rfl) (by kernel_rfl) (by kernel_rfl) (fun _ _ _ h => h) (Or.inl ⟨by rfl, fun w hSw => by go_simp⟩) (by assumption) ?_
    simp only [fGa, fGs, fGz, Act.put, fSa, fSz, fSs]
    refine wpAnyH_take (i := 3) (v := .pointer (some ⟨gx, 2, none⟩)) rfl (by kernel_rfl) (by kernel_rfl) (by kernel_rfl) (fun _ _ _ h => h) (Or.inl ⟨by rfl, fun w hSw => by go_simp⟩) (by assumption) ?_
    simp only [fGa, fGs, fGz, Act.put, fSa, fSz, fSs]
    refine wpAnyH_ready (rs := [4, 5]) (by kernel_rfl) (by simp) (AllReadyH.cons rfl (fun K hK => ?_) (AllReadyH.cons rfl (fun K hK => ?_) AllReadyH.nil))
    · refine step_loadSls (by rfl) (.tmp 28) rfl rfl c2 ?_
      refine hK.out _ _ (trivial) (fun hJ1 => ?_)
      clear hK K
      simp only [fGa, fGs, fGz, Act.put, fSa, fSz, fSs]
      refine wpAnyH_ready (rs := [5]) (by kernel_rfl) (by simp) (AllReadyH.cons rfl (fun K hK => ?_) AllReadyH.nil)
      refine step_make512 (by rfl) (.const (.int .i64 512)) (.const (.int .i64 512)) rfl rfl rfl ?_
      intro wm hm hbm
      refine hK.out _ _ (trivial) (fun hJ2 => ?_)
      clear hK K
      simp only [fGa, fGs, fGz, Act.put, fSa, fSz, fSs]
      refine wpAnyH_ready (rs := [6]) (by kernel_rfl) (by simp) (AllReadyH.cons rfl (fun K hK => ?_) AllReadyH.nil)
      refine step_buildSlW (by rfl) (.tmp 30) rfl rfl ?_
      refine hK.out _ _ (trivial) (fun hJ3 => ?_)
      clear hK K
      simp only [fGa, fGs, fGz, Act.put, fSa, fSz, fSs]
      refine wpAnyH_ready (rs := [7]) (by kernel_rfl) (by simp) (AllReadyH.cons rfl (fun K hK => ?_) AllReadyH.nil)
      have hbl : Below wr.drew.heap.size wr.drew (wm.alloc (.cells #[.slice (some ⟨wr.drew.heap.size, 0, none⟩) 512 512] 26)) := hbm.alloc hbm.size _
      refine step_appSl (by rfl) (.tmp 29) (.tmp 31) rfl rfl (HI.out.below hbl).own rfl (arr_cell (Arr.new wm [.slice (some ⟨wr.drew.heap.size, 0, none⟩) 512 512] 26) rfl) rfl ?_ ?_ ?_
      · have := HUS.out; omega
      · exact Nat.le_trans HD.out.bs hbl.size
      intro v2 wq hr2 hg2 hat2
      obtain ⟨⟨va2, vn2, vc2, hv2⟩, q1, q2, q4⟩ := HD.out.push List.length_replicate HI.out HA.out hbl HD.out.bs (hm.alloc _) zsec_is hr2 hg2
      subst hv2
      refine hK.out _ _ (trivial) (fun hJ4 => ?_)
      clear hK K
      simp only [fGa, fGs, fGz, Act.put, fSa, fSz, fSs]
      refine wpAnyH_take (i := 8) (v := .pointer (some ⟨gx, 0, none⟩)) rfl (by kernel_rfl) (by kernel_rfl) (by kernel_rfl) (fun _ _ _ h => h) (Or.inl ⟨by rfl, fun w hSw => by go_simp⟩) (by assumption) ?_
      simp only [fGa, fGs, fGz, Act.put, fSa, fSz, fSs]
      refine wpAnyH_take (i := 9) (v := .pointer (some ⟨gx, 2, none⟩)) rfl (by kernel_rfl) (by kernel_rfl) (by kernel_rfl) (fun _ _ _ h => h) (Or.inl ⟨by rfl, fun w hSw => by go_simp⟩) (by assumption) ?_
      simp only [fGa, fGs, fGz, Act.put, fSa, fSz, fSs]
      refine wpAnyH_ready (rs := [10]) (by kernel_rfl) (by simp) (AllReadyH.cons rfl (fun K hK => ?_) AllReadyH.nil)
      refine step_storeSls (v := .slice va2 vn2 vc2) (by rfl) (.tmp 34) (.tmp 32) rfl rfl rfl rfl q1 q2 ?_
      refine hK.out _ _ (trivial) (fun hJ5 => ?_)
      clear hK K
      simp only [fGa, fGs, fGz, Act.put]
      refine wpAnyH_done (by kernel_rfl) ?_ _
      have HQ : Hid (L6 w B gx SC (.pointer none) (.pointer none) (.pointer none) (wq.setCell ⟨gx, 2, none⟩ (.slice va2 vn2 vc2)) (List.replicate (k + 1) zsec)) := by rw [List.replicate_succ']; exact hide q4
      obtain ⟨wz, hwz⟩ : ∃ wz, wq.setCell ⟨gx, 2, none⟩ (.slice va2 vn2 vc2) = wz := ⟨_, rfl⟩
      rw [hwz] at HQ ⊢
      clear hwz q1 q2 q4 hr2 hg2 hat2 hm hbm hbl HD HI HA HL c2 hHeld hJ1 hJ2 hJ3 hJ4 hJ5
      go_wp2
      go_roundw
      case rel => exact ⟨k + 1, by omega, by go_num, HQ⟩
      case measure => simp [intOf]; omega
    · refine step_make512 (by rfl) (.const (.int .i64 512)) (.const (.int .i64 512)) rfl rfl rfl ?_
      intro wm hm hbm
      refine hK.out _ _ (trivial) (fun hJ1 => ?_)
      clear hK K
      simp only [fGa, fGs, fGz, Act.put, fSa, fSz, fSs]
      refine wpAnyH_ready (rs := [4, 6]) (by kernel_rfl) (by simp) (AllReadyH.cons rfl (fun K hK => ?_) (AllReadyH.cons rfl (fun K hK => ?_) AllReadyH.nil))
      · refine step_loadSls (by rfl) (.tmp 28) rfl rfl (bkeptC hbm c2) ?_
        refine hK.out _ _ (trivial) (fun hJ2 => ?_)
        clear hK K
        simp only [fGa, fGs, fGz, Act.put, fSa, fSz, fSs]
        refine wpAnyH_ready (rs := [6]) (by kernel_rfl) (by simp) (AllReadyH.cons rfl (fun K hK => ?_) AllReadyH.nil)
        refine step_buildSlW (by rfl) (.tmp 30) rfl rfl ?_
        refine hK.out _ _ (trivial) (fun hJ3 => ?_)
        clear hK K
        simp only [fGa, fGs, fGz, Act.put, fSa, fSz, fSs]
        refine wpAnyH_ready (rs := [7]) (by kernel_rfl) (by simp) (AllReadyH.cons rfl (fun K hK => ?_) AllReadyH.nil)
        have hbl : Below wr.drew.heap.size wr.drew (wm.alloc (.cells #[.slice (some ⟨wr.drew.heap.size, 0, none⟩) 512 512] 26)) := hbm.alloc hbm.size _
        refine step_appSl (by rfl) (.tmp 29) (.tmp 31) rfl rfl (HI.out.below hbl).own rfl (arr_cell (Arr.new wm [.slice (some ⟨wr.drew.heap.size, 0, none⟩) 512 512] 26) rfl) rfl ?_ ?_ ?_
        · have := HUS.out; omega
        · exact Nat.le_trans HD.out.bs hbl.size
        intro v2 wq hr2 hg2 hat2
        obtain ⟨⟨va2, vn2, vc2, hv2⟩, q1, q2, q4⟩ := HD.out.push List.length_replicate HI.out HA.out hbl HD.out.bs (hm.alloc _) zsec_is hr2 hg2
        subst hv2
        refine hK.out _ _ (trivial) (fun hJ4 => ?_)
        clear hK K
        simp only [fGa, fGs, fGz, Act.put, fSa, fSz, fSs]
        refine wpAnyH_take (i := 8) (v := .pointer (some ⟨gx, 0, none⟩)) rfl (by kernel_rfl) (by kernel_rfl) (by kernel_rfl) (fun _ _ _ h => h) (Or.inl ⟨by rfl, fun w hSw => by go_simp⟩) (by assumption) ?_
        simp only [fGa, fGs, fGz, Act.put, fSa, fSz, fSs]
        refine wpAnyH_take (i := 9) (v := .pointer (some ⟨gx, 2, none⟩)) rfl (by kernel_rfl) (by kernel_rfl) (by kernel_rfl) (fun _ _ _ h => h) (Or.inl ⟨by rfl, fun w hSw => by go_simp⟩) (by assumption) ?_
        simp only [fGa, fGs, fGz, Act.put, fSa, fSz, fSs]
        refine wpAnyH_ready (rs := [10]) (by kernel_rfl) (by simp) (AllReadyH.cons rfl (fun K hK => ?_) AllReadyH.nil)
        refine step_storeSls (v := .slice va2 vn2 vc2) (by rfl) (.tmp 34) (.tmp 32) rfl rfl rfl rfl q1 q2 ?_
        refine hK.out _ _ (trivial) (fun hJ5 => ?_)
        clear hK K
        simp only [fGa, fGs, fGz, Act.put]
        refine wpAnyH_done (by kernel_rfl) ?_ _
        have HQ : Hid (L6 w B gx SC (.pointer none) (.pointer none) (.pointer none) (wq.setCell ⟨gx, 2, none⟩ (.slice va2 vn2 vc2)) (List.replicate (k + 1) zsec)) := by rw [List.replicate_succ']; exact hide q4
        obtain ⟨wz, hwz⟩ : ∃ wz, wq.setCell ⟨gx, 2, none⟩ (.slice va2 vn2 vc2) = wz := ⟨_, rfl⟩
        rw [hwz] at HQ ⊢
        clear hwz q1 q2 q4 hr2 hg2 hat2 hm hbm hbl HD HI HA HL c2 hHeld hJ1 hJ2 hJ3 hJ4 hJ5
        go_wp2
        go_roundw
        case rel => exact ⟨k + 1, by omega, by go_num, HQ⟩
        case measure => simp [intOf]; omega
      · refine step_buildSlW (by rfl) (.tmp 30) rfl rfl ?_
        refine hK.out _ _ (trivial) (fun hJ2 => ?_)
        clear hK K
        simp only [fGa, fGs, fGz, Act.put, fSa, fSz, fSs]
        refine wpAnyH_ready (rs := [4]) (by kernel_rfl) (by simp) (AllReadyH.cons rfl (fun K hK => ?_) AllReadyH.nil)
        refine step_loadSls (by rfl) (.tmp 28) rfl rfl (bkeptC (hbm.alloc hbm.size _) c2) ?_
        refine hK.out _ _ (trivial) (fun hJ3 => ?_)
        clear hK K
        simp only [fGa, fGs, fGz, Act.put, fSa, fSz, fSs]
        refine wpAnyH_ready (rs := [7]) (by kernel_rfl) (by simp) (AllReadyH.cons rfl (fun K hK => ?_) AllReadyH.nil)
        have hbl : Below wr.drew.heap.size wr.drew (wm.alloc (.cells #[.slice (some ⟨wr.drew.heap.size, 0, none⟩) 512 512] 26)) := hbm.alloc hbm.size _
        refine step_appSl (by rfl) (.tmp 29) (.tmp 31) rfl rfl (HI.out.below hbl).own rfl (arr_cell (Arr.new wm [.slice (some ⟨wr.drew.heap.size, 0, none⟩) 512 512] 26) rfl) rfl ?_ ?_ ?_
        · have := HUS.out; omega
        · exact Nat.le_trans HD.out.bs hbl.size
        intro v2 wq hr2 hg2 hat2
        obtain ⟨⟨va2, vn2, vc2, hv2⟩, q1, q2, q4⟩ := HD.out.push List.length_replicate HI.out HA.out hbl HD.out.bs (hm.alloc _) zsec_is hr2 hg2
        subst hv2
        refine hK.out _ _ (trivial) (fun hJ4 => ?_)
        clear hK K
        simp only [fGa, fGs, fGz, Act.put, fSa, fSz, fSs]
        refine wpAnyH_take (i := 8) (v := .pointer (some ⟨gx, 0, none⟩)) rfl (by kernel_rfl) (by kernel_rfl) (by kernel_rfl) (fun _ _ _ h => h) (Or.inl ⟨by rfl, fun w hSw => by go_simp⟩) (by assumption) ?_
        simp only [fGa, fGs, fGz, Act.put, fSa, fSz, fSs]
        refine wpAnyH_take (i := 9) (v := .pointer (some ⟨gx, 2, none⟩)) rfl (by kernel_rfl) (by kernel_rfl) (by kernel_rfl) (fun _ _ _ h => h) (Or.inl ⟨by rfl, fun w hSw => by go_simp⟩) (by assumption) ?_
        simp only [fGa, fGs, fGz, Act.put, fSa, fSz, fSs]
        refine wpAnyH_ready (rs := [10]) (by kernel_rfl) (by simp) (AllReadyH.cons rfl (fun K hK => ?_) AllReadyH.nil)
        refine step_storeSls (v := .slice va2 vn2 vc2) (by rfl) (.tmp 34) (.tmp 32) rfl rfl rfl rfl q1 q2 ?_
        refine hK.out _ _ (trivial) (fun hJ5 => ?_)
        clear hK K
        simp only [fGa, fGs, fGz, Act.put]
        refine wpAnyH_done (by kernel_rfl) ?_ _
        have HQ : Hid (L6 w B gx SC (.pointer none) (.pointer none) (.pointer none) (wq.setCell ⟨gx, 2, none⟩ (.slice va2 vn2 vc2)) (List.replicate (k + 1) zsec)) := by rw [List.replicate_succ']; exact hide q4
        obtain ⟨wz, hwz⟩ : ∃ wz, wq.setCell ⟨gx, 2, none⟩ (.slice va2 vn2 vc2) = wz := ⟨_, rfl⟩
        rw [hwz] at HQ ⊢
        clear hwz q1 q2 q4 hr2 hg2 hat2 hm hbm hbl HD HI HA HL c2 hHeld hJ1 hJ2 hJ3 hJ4 hJ5
        go_wp2
        go_roundw
        case rel => exact ⟨k + 1, by omega, by go_num, HQ⟩
        case measure => simp [intOf]; omega
  · obtain rfl : k = n := by omega
    have HZ := HL
    clear HL hlt hk
    obtain ⟨M, hM⟩ : ∃ M, M = min rn 400 := ⟨_, rfl⟩
    have hM1 : M ≤ rn ∧ M ≤ 400 := by omega
    have HM := hide hM
    clear hM
    obtain ⟨hM1, hM2⟩ := hM1
    go_wp2_with fail
    go_loopw [6] (fun i wr => ∃ j : Nat, j ≤ M ∧ i = .int .i64 (j : Int) ∧ Hid (L6 w B gx SC (.pointer none) (.pointer none) (.pointer none) wr (laidI k (List.replicate k zsec) (raw.take j)))) (fun i _ => M - (intOf i).toNat)
    case atStart => exact ⟨0, by omega, rfl, HZ⟩
    case round =>
     clear HZ
     obtain ⟨j, hj, rfl, HL⟩ := hrel
     have cB1 : wr.cell? ⟨B, 1, none⟩ = some (.slice ra rn rc) := by have := HL.out.sc; rw [← HSC.out] at this; exact arr_cell this rfl
     by_cases hlt : j < M
     · have hj1 : (j : Int) < (rn : Int) := by omega
       have hj2 : (j : Int) < 400 := by omega
       obtain ⟨rb, ro, xn, ba, bn, bc, xb, hra, hs3, hs4, hib, hgk⟩ := spot_at HR.out (show j < rn by omega)
       subst hra
       have hlow : Below w.heap.size w wr := by rw [HB.out]; exact HL.out.low
       have hrbw := World.block_lt_of_cell? w _ hs3
       have hs3 := bkeptC hlow hs3
       have hs4 := bkeptC hlow hs4
       have HIB := hide (hib.below hlow)
       have HNL : Hid ((laidI k (List.replicate k zsec) (raw.take j)).length = k) := hide (by rw [laidI_len, List.length_replicate])
       obtain ⟨ga, c, us, c2, hI, hA⟩ := HL.out.image HNL.out (by omega)
       obtain ⟨J, hJ⟩ : ∃ J : Nat, wholeI xn 0 ((k : Int) - 1) = (J : Int) := ⟨(wholeI xn 0 ((k : Int) - 1)).toNat, by have := wholeI_in xn (show (0 : Int) ≤ (k : Int) - 1 by omega); omega⟩
       obtain ⟨hga, cg, mg, hgb⟩ := row_blk hI.own (g := ga) rfl
       have hne1 : gx ≠ ga := blk_unlike hA hgb (by decide)
       have hne2 : B ≠ ga := blk_unlike HL.out.sc hgb (by decide)
       have hne3 : rb ≠ ga := by have := HB.out; have : rb < w.heap.size := hrbw; omega
       have HSQ : Hid (∀ (W : World) (u : Value), W.cell? ⟨gx, 2, none⟩ = some (.slice (some ⟨ga, 0, none⟩) k c) ∧ W.cell? ⟨B, 1, none⟩ = some (.slice (some ⟨rb, ro, none⟩) rn rc) ∧ W.cell? ⟨rb, ro + j * 2, none⟩ = some (.int .i64 xn) ∧ W.cell? ⟨rb, ro + j * 2 + 1, none⟩ = some (.slice ba bn bc) → (W.setCell ⟨ga, J, none⟩ u).cell? ⟨gx, 2, none⟩ = some (.slice (some ⟨ga, 0, none⟩) k c) ∧ (W.setCell ⟨ga, J, none⟩ u).cell? ⟨B, 1, none⟩ = some (.slice (some ⟨rb, ro, none⟩) rn rc) ∧ (W.setCell ⟨ga, J, none⟩ u).cell? ⟨rb, ro + j * 2, none⟩ = some (.int .i64 xn) ∧ (W.setCell ⟨ga, J, none⟩ u).cell? ⟨rb, ro + j * 2 + 1, none⟩ = some (.slice ba bn bc)) := hide (fun W u ⟨h1, h2, h3, h4⟩ => ⟨up_set.cell h1 hne1, up_set.cell h2 hne2, up_set.cell h3 hne3, up_set.cell h4 hne3⟩)
       have HI := hide hI
       have HA := hide hA
       clear hga hgb hne1 hne2 hne3 hrbw
       have HJ : Hid (J < (laidI k (List.replicate k zsec) (raw.take j)).length) := hide (by rw [HNL.out]; have := wholeI_in xn (show (0 : Int) ≤ (k : Int) - 1 by omega); omega)
       have hJk : J < k := by have := HJ.out; rw [HNL.out] at this; exact this
       have HW0 := hide (fun W => whole6_calls xn (show (0 : Int) ≤ 0 by omega) (show (0 : Int) ≤ (k : Int) - 1 by omega) (by omega) W)
       rw [hJ] at HW0
       have HST : Hid (laidI k (List.replicate k zsec) (raw.take (j + 1)) = (laidI k (List.replicate k zsec) (raw.take j)).set J (sec6 xb)) := hide (by rw [laidI_step hgk, hJ]; rfl)
       have HS : Hid (∀ W, Below wr.heap.size wr W → W.cell? ⟨gx, 2, none⟩ = some (.slice (some ⟨ga, 0, none⟩) k c) ∧ W.cell? ⟨B, 1, none⟩ = some (.slice (some ⟨rb, ro, none⟩) rn rc) ∧ W.cell? ⟨rb, ro + j * 2, none⟩ = some (.int .i64 xn) ∧ W.cell? ⟨rb, ro + j * 2 + 1, none⟩ = some (.slice ba bn bc)) := hide (fun W hW => ⟨bkeptC hW c2, bkeptC hW cB1, bkeptC hW hs3, bkeptC hW hs4⟩)
       clear hI hA hgk hib hlow hJ hs3 hs4 c2
       have hwk : IntKind.i64.wrap ((k : Int) - 1) = (k : Int) - 1 := IntWalk.i64_in _ (by omega)
       go_wp2_with fail
       refine wp_region_held_drew (S := fun W => W.cell? ⟨gx, 2, none⟩ = some (.slice (some ⟨ga, 0, none⟩) k c) ∧ W.cell? ⟨B, 1, none⟩ = some (.slice (some ⟨rb, ro, none⟩) rn rc) ∧ W.cell? ⟨rb, ro + j * 2, none⟩ = some (.int .i64 xn) ∧ W.cell? ⟨rb, ro + j * 2 + 1, none⟩ = some (.slice ba bn bc)) (by kernel_rfl) (unhide HS _ (Below.refl _ _).drew) (fun hHeld => ?_)
       refine wpAnyH_take (i := 0) (v := .pointer (some ⟨gx, 0, none⟩)) rfl (by kernel_rfl) (by kernel_rfl) (by kernel_rfl) (fun _ _ _ h => h) (Or.inl ⟨by rfl, fun w hSw => by obtain ⟨hS1, hS2, hS3, hS4⟩ := hSw; go_simp⟩) (by assumption) ?_
       simp only [fGa, fGz, Act.put, fSa, fSz, fSs]
       refine wpAnyH_take (i := 1) (v := .pointer (some ⟨gx, 0, none⟩)) rfl (by kernel_rfl) (by kernel_rfl) (by kernel_rfl) (fun _ _ _ h => h) (Or.inl ⟨by rfl, fun w hSw => by obtain ⟨hS1, hS2, hS3, hS4⟩ := hSw; go_simp⟩) (by assumption) ?_
       simp only [fGa, fGs, fGz, Act.put, fSa, fSz, fSs]
       refine wpAnyH_take (i := 2) (v := .pointer (some ⟨gx, 2, none⟩)) rfl (by kernel_rfl) (by kernel_rfl) (by kernel_rfl) (fun _ _ _ h => h) (Or.inl ⟨by rfl, fun w hSw => by obtain ⟨hS1, hS2, hS3, hS4⟩ := hSw; go_simp⟩) (by assumption) ?_
       simp only [fGa, fGs, fGz, Act.put, fSa, fSz, fSs]
       refine wpAnyH_take (i := 3) (v := .slice (some ⟨ga, 0, none⟩) k c) rfl (by kernel_rfl) (by kernel_rfl) (by kernel_rfl) (fun _ _ _ h => h) (Or.inl ⟨by rfl, fun w hSw => by obtain ⟨hS1, hS2, hS3, hS4⟩ := hSw; go_simp⟩) (by assumption) ?_
       simp only [fGa, fGs, fGz, Act.put, fSa, fSz, fSs]
       refine wpAnyH_take (i := 4) (v := .pointer (some ⟨B, 1, none⟩)) rfl (by kernel_rfl) (by kernel_rfl) (by kernel_rfl) (fun _ _ _ h => h) (Or.inl ⟨by rfl, fun w hSw => by obtain ⟨hS1, hS2, hS3, hS4⟩ := hSw; go_simp⟩) (by assumption) ?_
       simp only [fGa, fGs, fGz, Act.put, fSa, fSz, fSs]
       refine wpAnyH_take (i := 5) (v := .slice (some ⟨rb, ro, none⟩) rn rc) rfl (by kernel_rfl) (by kernel_rfl) (by kernel_rfl) (fun _ _ _ h => h) (Or.inl ⟨by rfl, fun w hSw => by obtain ⟨hS1, hS2, hS3, hS4⟩ := hSw; go_simp⟩) (by assumption) ?_
       simp only [fGa, fGs, fGz, Act.put, fSa, fSz, fSs]
       refine wpAnyH_take (i := 6) (v := .int .i64 (j : Int)) rfl (by kernel_rfl) (by kernel_rfl) (by kernel_rfl) (fun _ _ _ h => h) (Or.inl ⟨by rfl, fun w hSw => by obtain ⟨hS1, hS2, hS3, hS4⟩ := hSw; go_simp⟩) (by assumption) ?_
       simp only [fGa, fGs, fGz, Act.put, fSa, fSz, fSs]
       refine wpAnyH_take (i := 7) (v := .pointer (some ⟨rb, ro + j * 2, none⟩)) rfl (by kernel_rfl) (by kernel_rfl) (by kernel_rfl) (fun _ _ _ h => h) (Or.inl ⟨by rfl, fun w hSw => by obtain ⟨hS1, hS2, hS3, hS4⟩ := hSw; go_simp⟩) (by assumption) ?_
       simp only [fGa, fGs, fGz, Act.put, fSa, fSz, fSs]
       refine wpAnyH_take (i := 8) (v := .pointer (some ⟨rb, ro + j * 2, none⟩)) rfl (by kernel_rfl) (by kernel_rfl) (by kernel_rfl) (fun _ _ _ h => h) (Or.inl ⟨by rfl, fun w hSw => by obtain ⟨hS1, hS2, hS3, hS4⟩ := hSw; go_simp⟩) (by assumption) ?_
       simp only [fGa, fGs, fGz, Act.put, fSa, fSz, fSs]
       refine wpAnyH_take (i := 9) (v := .int .i64 xn) rfl (by kernel_rfl) (by kernel_rfl) (by kernel_rfl) (fun _ _ _ h => h) (Or.inl ⟨by rfl, fun w hSw => by obtain ⟨hS1, hS2, hS3, hS4⟩ := hSw; go_simp⟩) (by assumption) ?_
       simp only [fGa, fGs, fGz, Act.put, fSa, fSz, fSs]
       refine wpAnyH_take (i := 10) (v := .int .i64 (k : Int)) rfl (by kernel_rfl) (by kernel_rfl) (by kernel_rfl) (fun _ _ _ h => h) (Or.inl ⟨by rfl, fun w hSw => by obtain ⟨hS1, hS2, hS3, hS4⟩ := hSw; go_simp⟩) (by assumption) ?_
       simp only [fGa, fGs, fGz, Act.put, fSa, fSz, fSs]
       refine wpAnyH_take (i := 11) (v := .int .i64 ((k : Int) - 1)) rfl (by kernel_rfl) (by kernel_rfl) (by kernel_rfl) (fun _ _ _ h => h) (Or.inl ⟨by rfl, fun w hSw => by obtain ⟨hS1, hS2, hS3, hS4⟩ := hSw; go_simp⟩) (by assumption) ?_
       simp only [fGa, fGs, fGz, Act.put, fSa, fSz, fSs]
       refine wpAnyH_take (i := 13) (v := .pointer (some ⟨B, 1, none⟩)) rfl (by kernel_rfl) (by kernel_rfl) (by kernel_rfl) (fun _ _ _ h => h) (Or.inl ⟨by rfl, fun w hSw => by obtain ⟨hS1, hS2, hS3, hS4⟩ := hSw; go_simp⟩) (by assumption) ?_
       simp only [fGa, fGs, fGz, Act.put, fSa, fSz, fSs]
       refine wpAnyH_take (i := 14) (v := .slice (some ⟨rb, ro, none⟩) rn rc) rfl (by kernel_rfl) (by kernel_rfl) (by kernel_rfl) (fun _ _ _ h => h) (Or.inl ⟨by rfl, fun w hSw => by obtain ⟨hS1, hS2, hS3, hS4⟩ := hSw; go_simp⟩) (by assumption) ?_
       simp only [fGa, fGs, fGz, Act.put, fSa, fSz, fSs]
       refine wpAnyH_take (i := 15) (v := .int .i64 (j : Int)) rfl (by kernel_rfl) (by kernel_rfl) (by kernel_rfl) (fun _ _ _ h => h) (Or.inl ⟨by rfl, fun w hSw => by obtain ⟨hS1, hS2, hS3, hS4⟩ := hSw; go_simp⟩) (by assumption) ?_
       simp only [fGa, fGs, fGz, Act.put, fSa, fSz, fSs]
       refine wpAnyH_take (i := 16) (v := .pointer (some ⟨rb, ro + j * 2, none⟩)) rfl (by kernel_rfl) (by kernel_rfl) (by kernel_rfl) (fun _ _ _ h => h) (Or.inl ⟨by rfl, fun w hSw => by obtain ⟨hS1, hS2, hS3, hS4⟩ := hSw; go_simp⟩) (by assumption) ?_
       simp only [fGa, fGs, fGz, Act.put, fSa, fSz, fSs]
       refine wpAnyH_take (i := 17) (v := .pointer (some ⟨rb, ro + j * 2 + 1, none⟩)) rfl (by kernel_rfl) (by kernel_rfl) (by kernel_rfl) (fun _ _ _ h => h) (Or.inl ⟨by rfl, fun w hSw => by obtain ⟨hS1, hS2, hS3, hS4⟩ := hSw; go_simp⟩) (by assumption) ?_
       simp only [fGa, fGs, fGz, Act.put, fSa, fSz, fSs]
       refine wpAnyH_take (i := 18) (v := .slice (ba) bn bc) rfl (by kernel_rfl) (by kernel_rfl) (by kernel_rfl) (fun _ _ _ h => h) (Or.inl ⟨by rfl, fun w hSw => by obtain ⟨hS1, hS2, hS3, hS4⟩ := hSw; go_simp⟩) (by assumption) ?_
       simp only [fGa, fGs, fGz, Act.put, fSa, fSz, fSs]
       refine wpAnyH_ready (rs := [12]) (by kernel_rfl) (by simp) (AllReadyH.cons rfl (fun K hK => ?_) AllReadyH.nil)
       refine step_call3C (by rfl) 15 whole_enter (.tmp 55) (.const (.int .i64 0)) (.tmp 57) _ rfl rfl rfl rfl (unhide HW0 _) ?_
       rintro e wa ⟨rfl, hwa⟩
       refine ⟨_, rfl, ?_⟩
       subst hwa
       refine hK.out _ _ (hHeld) (fun hJ1 => ?_)
       clear hK K
       simp only [fGa, fGs, fGz, Act.put, fSa, fSz, fSs]
       refine wpAnyH_ready (rs := [19]) (by kernel_rfl) (by simp) (AllReadyH.cons rfl (fun K hK => ?_) AllReadyH.nil)
       refine step_call1C (by rfl) 17 sec6_enter (.tmp 64) _ rfl rfl (sector6_calls (HIB.out.below (Below.refl _ _).drew)) ?_
       rintro e wb ⟨rfl, hG, hwb⟩
       refine ⟨_, rfl, ?_⟩
       have hbb : Below wr.heap.size wr wb := (Below.refl _ _).drew.trans hwb
       obtain ⟨⟨u0, q1⟩, q2, q4⟩ := (HL.out.below hbb).put HNL.out (HI.out.below hbb) (HA.out.below hbb) HJ.out HL.out.bs hG (sec6_is HIB.out.mem)
       refine hK.out _ _ (unhide HS _ hbb) (fun hJ2 => ?_)
       clear hK K
       simp only [fGa, fGs, fGz, Act.put, fSa, fSz, fSs]
       refine wpAnyH_take (i := 20) (v := .pointer (some ⟨ga, J, none⟩)) rfl (by kernel_rfl) (by kernel_rfl) (by kernel_rfl) (fun _ _ _ h => h) (Or.inl ⟨by rfl, fun w hSw => by obtain ⟨hS1, hS2, hS3, hS4⟩ := hSw; go_simp⟩) (by assumption) ?_
       simp only [fGa, fGs, fGz, Act.put, fSa, fSz, fSs]
       refine wpAnyH_ready (rs := [21]) (by kernel_rfl) (by simp) (AllReadyH.cons rfl (fun K hK => ?_) AllReadyH.nil)
       refine step_storeBs (v := .slice (some ⟨wr.drew.heap.size, 0, none⟩) 512 512) (by rfl) (.tmp 66) (.tmp 65) rfl rfl rfl rfl q1 q2 ?_
       refine hK.out _ _ (unhide HSQ _ _ (unhide HS _ hbb)) (fun hJ3 => ?_)
       clear hK K
       simp only [fGa, fGs, fGz, Act.put]
       refine wpAnyH_done (by kernel_rfl) ?_ _
       have HQ : Hid (L6 w B gx SC (.pointer none) (.pointer none) (.pointer none) (wb.setCell ⟨ga, J, none⟩ (.slice (some ⟨wr.drew.heap.size, 0, none⟩) 512 512)) (laidI k (List.replicate k zsec) (raw.take (j + 1)))) := by rw [HST.out]; exact hide q4
       obtain ⟨wz, hwz⟩ : ∃ wz, wb.setCell ⟨ga, J, none⟩ (.slice (some ⟨wr.drew.heap.size, 0, none⟩) 512 512) = wz := ⟨_, rfl⟩
       rw [hwz] at HQ ⊢
       clear hwz q1 q2 q4 hG hwb hbb HI HA HL HS HSQ HST HW0 HIB HNL HJ hHeld hJ1 hJ2 hJ3 cB1
       go_wp2
       go_roundw
       case rel => exact ⟨j + 1, by omega, by go_num, HQ⟩
       case measure => simp [intOf]; omega
     · have HF : Hid (L6 w B gx SC (.pointer none) (.pointer none) (.pointer none) wr (laidI k (List.replicate k zsec) (raw.take 400))) := by
        have e1 := spots_len HR.out
        have e2 := HM.out
        have e : raw.take j = raw.take 400 := by
         by_cases h4 : 400 ≤ rn
         · rw [show j = 400 by omega]
         · rw [List.take_of_length_le (by omega), List.take_of_length_le (by omega)]
        rw [← e]
        exact HL
       obtain ⟨IMS, hIMS⟩ : ∃ IMS, laidI k (List.replicate k zsec) (raw.take 400) = IMS := ⟨_, rfl⟩
       have HNL : Hid (IMS.length = k) := hide (by rw [← hIMS, laidI_len, List.length_replicate])
       rw [hIMS] at HF
       have HIM := hide hIMS
       obtain ⟨ga, c, us, c2, hI, hA⟩ := HF.out.image HNL.out (by omega)
       have hcs := hI.cells HNL.out
       have HLD := hide (load_walk (w := wr) (b := ga) (off := 0) (n := k) (cap := c) (xss := IMS) HNL.out.symm (by omega) (by omega) hcs.1 hcs.2.1 hcs.2.2)
       have H512 : Hid (∀ j, j < k → (IMS.getD j []).length = 512) := hide (fun j hj => by
        have h1 : j < IMS.length := by rw [HNL.out]; exact hj
        refine (hI.secs _ ?_).1
        rw [List.getD_eq_getElem?_getD, List.getElem?_eq_getElem h1]
        exact List.getElem_mem h1)
       have hex : ((j : Int) < (rn : Int) ∧ ¬ (j : Int) < 400) ∨ ¬ (j : Int) < (rn : Int) := by have := HM.out; omega
       obtain ⟨fr, hfr⟩ : ∃ fr : Nat, wholeI fn 0 ((k : Int) + 3) = (fr : Int) := ⟨(wholeI fn 0 ((k : Int) + 3)).toNat, by have := wholeI_in fn (show (0 : Int) ≤ (k : Int) + 3 by omega); omega⟩
       have hfr2 : fr ≤ k + 3 := by have := wholeI_in fn (show (0 : Int) ≤ (k : Int) + 3 by omega); omega
       obtain ⟨dl, hdl⟩ : ∃ dl : Nat, wholeI tn 1 ((k : Int) + 4) = (dl : Int) := ⟨(wholeI tn 1 ((k : Int) + 4)).toNat, by have := wholeI_in tn (show (1 : Int) ≤ (k : Int) + 4 by omega); omega⟩
       have hdl2 : 1 ≤ dl ∧ dl ≤ k + 4 := by have := wholeI_in tn (show (1 : Int) ≤ (k : Int) + 4 by omega); omega
       obtain ⟨hdl2, hdl3⟩ := hdl2
       have HW1 := hide (fun W => whole6_calls fn (show (0 : Int) ≤ 0 by omega) (show (0 : Int) ≤ (k : Int) + 3 by omega) (by omega) W)
       have HW3 := hide (fun W => whole6_calls tn (show (0 : Int) ≤ 1 by omega) (show (1 : Int) ≤ (k : Int) + 4 by omega) (by omega) W)
       rw [hfr] at HW1
       rw [hdl] at HW3
       obtain ⟨to_, hto⟩ : ∃ to_, to_ = fr + dl := ⟨_, rfl⟩
       have hto2 : fr < to_ ∧ to_ ≤ 65536 := by omega
       have hwk3 : IntKind.i64.wrap ((k : Int) + 3) = (k : Int) + 3 := IntWalk.i64_in _ (by omega)
       have hwk4 : IntKind.i64.wrap ((k : Int) + 4) = (k : Int) + 4 := IntWalk.i64_in _ (by omega)
       have hwto : IntKind.i64.wrap ((fr : Int) + (dl : Int)) = (to_ : Int) := by rw [show (fr : Int) + (dl : Int) = (to_ : Int) by omega]; exact IntWalk.i64_in _ (by omega)
       have HTO := hide hto
       have HTO2 := hide hto2
       have HFR := hide hfr
       have HDL := hide hdl
       clear hIMS hI hA hcs HL hfr hdl hto hto2
       rcases hex with ⟨hx1, hx2⟩ | hx1
       all_goals (
        go_wp2_with fail
        refine (unhide HLD).mono ?_
        rintro e w3 ⟨hb3, ⟨rfl, j0, hj0, hj1⟩ | ⟨p, gl, gm, V, rfl, _, hD, hp, hgl, hgm, hV⟩⟩
        · exact absurd (unhide H512 j0 hj0) hj1)
       all_goals (
        have hsc3 := HF.out.sc.below hb3
        rw [← HSC.out] at hsc3
        have cB2 : w3.cell? ⟨B, 2, none⟩ = some (.int .i64 fn) := arr_cell hsc3 rfl
        have cB3 : w3.cell? ⟨B, 3, none⟩ = some (.int .i64 tn) := arr_cell hsc3 rfl
        have HD := hide hD
        have HV := hide hV
        have HSN := hide (spNew_calls (w := w3) fr to_ HTO2.out.1 HTO2.out.2)
        have HRN := hide (fun W => rnew_calls (w := W) fr to_ HTO2.out.1 HTO2.out.2)
        clear hsc3 hD hV H512 HLD c2
        go_wp2_with fail
        refine (num6_calls 0 _).mono ?_
        rintro e _ ⟨rfl, rfl⟩
        go_wp2_with fail
        refine (unhide HW1 _).mono ?_
        rintro e _ ⟨rfl, rfl⟩
        go_wp2_with fail
        refine (unhide HW3 _).mono ?_
        rintro e _ ⟨rfl, rfl⟩
        go_wp2_with fail
        refine (unhide HSN).mono ?_
        rintro e w4 ⟨g, gw, rfl, hS, hg4, hb4⟩
        obtain ⟨c0, f0, c1, f1, hMD⟩ := Ld.made HF.out hb3 HD.out hp hgl hgm HV.out hb4 hS hg4 HTO2.out.1
        obtain ⟨w5, hw5⟩ : ∃ w5, (w4.setCell ⟨gx, 0, none⟩ (.pointer (some ⟨p, 0, none⟩))).setCell ⟨gx, 1, none⟩ (.pointer (some ⟨g, 0, none⟩)) = w5 := ⟨_, rfl⟩
        have HW5 := hide hw5
        have HMD := hide (hMD w5 hw5)
        clear hw5 hMD
        go_wp2_with fail
        refine (num6_calls 0 _).mono ?_
        rintro e _ ⟨rfl, rfl⟩
        go_wp2_with fail
        rw [HW5.out]
        refine (unhide HRN _).mono ?_
        rintro e w6 ⟨gr, gb, rfl, hR, hg6, hb6⟩
        obtain ⟨c3, f3, hLd⟩ := unhide HMD gr gb w6 hR hg6 hb6
        have HLd := hide hLd
        clear hLd hR hg6 hb6 hS hg4 hb4 c0 f0 c1 f1 HMD HD HV cB2 cB3 HSN HRN HW1 HW3
        obtain ⟨w7, hw7⟩ : ∃ w7, w6.setCell ⟨gx, 3, none⟩ (.pointer (some ⟨gr, 0, none⟩)) = w7 := ⟨_, rfl⟩
        rw [hw7] at HLd
        have HW7 := hide hw7
        have HLe : Hid (∃ m1 m2, Ld w B gx SC w7 IMS p gl gm V m1 g gw m2 gr gb fr to_ (newW (to_ - fr)) (List.replicate (to_ - fr) true)) := hide ⟨_, _, HLd.out⟩
        obtain ⟨M3, hM3⟩ : ∃ M3, M3 = min tl 400 := ⟨_, rfl⟩
        have hM31 : M3 ≤ tl ∧ M3 ≤ 400 := by omega
        have HM3 := hide hM3
        obtain ⟨hM31, hM32⟩ := hM31
        clear hw7 hM3 HLd
        go_wp2_with fail
        rw [HW7.out]
        clear c3 f3 HW7 HW5 hp hgl hgm hb3
        go_loopw [13] (fun i wr => ∃ i3 : Nat, i3 ≤ M3 ∧ i = .int .i64 (i3 : Int) ∧ Hid (∃ m1 m2, Ld w B gx SC wr IMS p gl gm V m1 g gw m2 gr gb fr to_ (takenW fr to_ (newW (to_ - fr)) (tk.take i3)) (takenR fr to_ (List.replicate (to_ - fr) true) (tk.take i3)))) (fun i _ => M3 - (intOf i).toNat)
        case atStart => exact ⟨0, by omega, rfl, HLe⟩
        case round =>
         clear HLe
         obtain ⟨i3, hi3, rfl, HL⟩ := hrel
         have cB4 : wr.cell? ⟨B, 4, none⟩ = some (.slice ta tl tc) := by
          obtain ⟨_, _, q⟩ := HL.out
          have := q.l6.sc
          rw [← HSC.out] at this
          exact arr_cell this rfl
         by_cases hlt3 : i3 < M3
         · have hj1 : (i3 : Int) < (tl : Int) := by omega
           have hj2 : (i3 : Int) < 400 := by omega
           obtain ⟨tb, tf, xn, hta, ht3, hgk⟩ := isT_at HTK.out (show i3 < tl by omega)
           subst hta
           have ht3 : wr.cell? ⟨tb, tf + i3, none⟩ = some (.int .i64 xn) := by
            obtain ⟨_, _, q⟩ := HL.out
            have hlow : Below w.heap.size w wr := by rw [HB.out]; exact q.l6.low
            exact bkeptC hlow ht3
           have HSW := hide (takenW_step (fr := fr) (to_ := to_) (ws := newW (to_ - fr)) hgk)
           have HSR := hide (takenR_step (fr := fr) (to_ := to_) (bs := List.replicate (to_ - fr) true) hgk)
           have hft : (0 : Int) ≤ (fr : Int) ∧ (fr : Int) ≤ (to_ : Int) - 1 ∧ (to_ : Int) - 1 ≤ 4000000 := by have := HTO2.out; omega
           have HWX := hide (fun W => whole6_calls xn hft.1 hft.2.1 hft.2.2 W)
           have hwt1 : IntKind.i64.wrap ((to_ : Int) - 1) = (to_ : Int) - 1 := IntWalk.i64_in _ (by have := HTO2.out; omega)
           generalize wholeI xn (fr : Int) ((to_ : Int) - 1) = x3 at HWX HSW HSR
           clear hft hgk
           go_wp2_with fail
           refine (unhide HWX _).mono ?_
           rintro e _ ⟨rfl, rfl⟩
           rename World => wr
           obtain ⟨m1, m2, hLd⟩ := HL.out
           have HD := hide (hLd.below (W1 := wr.drew) (Below.refl _ _).drew)
           obtain ⟨bb, hbb⟩ : ∃ bb, hasB fr to_ (takenW fr to_ (newW (to_ - fr)) (tk.take i3)) x3 = bb := ⟨_, rfl⟩
           have HBB : Hid (hasR fr to_ (takenR fr to_ (List.replicate (to_ - fr) true) (tk.take i3)) x3 = bb) := hide ((hLd.tw.has x3).trans hbb)
           have HC1 := hide (claim_calls HD.out.sp x3)
           rw [hbb] at HC1
           have c3 : wr.drew.cell? ⟨gx, 3, none⟩ = some (.pointer (some ⟨gr, 0, none⟩)) := by obtain ⟨_, _, _, _, _, _, _, q, _⟩ := HD.out.l6.cells; exact q
           clear hLd hbb HL cB4 ht3
           go_wp2_with fail
           refine wp_region_held_drew (S := fun W => W.cell? ⟨gx, 3, none⟩ = some (.pointer (some ⟨gr, 0, none⟩))) (by kernel_rfl) (c3) (fun hHeld => ?_)
           refine wpAnyH_take (i := 0) (v := .pointer (some ⟨g, 0, none⟩)) rfl (by kernel_rfl) (by kernel_rfl) (by kernel_rfl) (fun _ _ _ h => h) (Or.inl ⟨by rfl, fun w hSw => by go_simp⟩) (by assumption) ?_
           simp only [fGa, fGz, Act.put, fSa, fSz, fSs]
           refine wpAnyH_take (i := 1) (v := .int .i64 x3) rfl (by kernel_rfl) (by kernel_rfl) (by kernel_rfl) (fun _ _ _ h => h) (Or.inl ⟨by rfl, fun w hSw => by go_simp⟩) (by assumption) ?_
           simp only [fGa, fGs, fGz, Act.put, fSa, fSz, fSs]
           refine wpAnyH_take (i := 3) (v := .pointer (some ⟨gx, 0, none⟩)) rfl (by kernel_rfl) (by kernel_rfl) (by kernel_rfl) (fun _ _ _ h => h) (Or.inl ⟨by rfl, fun w hSw => by go_simp⟩) (by assumption) ?_
           simp only [fGa, fGs, fGz, Act.put, fSa, fSz, fSs]
           refine wpAnyH_take (i := 4) (v := .pointer (some ⟨gx, 0, none⟩)) rfl (by kernel_rfl) (by kernel_rfl) (by kernel_rfl) (fun _ _ _ h => h) (Or.inl ⟨by rfl, fun w hSw => by go_simp⟩) (by assumption) ?_
           simp only [fGa, fGs, fGz, Act.put, fSa, fSz, fSs]
           refine wpAnyH_take (i := 5) (v := .pointer (some ⟨gx, 3, none⟩)) rfl (by kernel_rfl) (by kernel_rfl) (by kernel_rfl) (fun _ _ _ h => h) (Or.inl ⟨by rfl, fun w hSw => by go_simp⟩) (by assumption) ?_
           simp only [fGa, fGs, fGz, Act.put, fSa, fSz, fSs]
           refine wpAnyH_take (i := 6) (v := .pointer (some ⟨gr, 0, none⟩)) rfl (by kernel_rfl) (by kernel_rfl) (by kernel_rfl) (fun _ _ _ h => h) (Or.inl ⟨by rfl, fun w hSw => by go_simp⟩) (by assumption) ?_
           simp only [fGa, fGs, fGz, Act.put, fSa, fSz, fSs]
           refine wpAnyH_take (i := 7) (v := .int .i64 x3) rfl (by kernel_rfl) (by kernel_rfl) (by kernel_rfl) (fun _ _ _ h => h) (Or.inl ⟨by rfl, fun w hSw => by go_simp⟩) (by assumption) ?_
           simp only [fGa, fGs, fGz, Act.put, fSa, fSz, fSs]
           refine wpAnyH_ready (rs := [2]) (by kernel_rfl) (by simp) (AllReadyH.cons rfl (fun K hK => ?_) AllReadyH.nil)
           refine step_call2C (by rfl) 22 claim_enter (.tmp 144) (.tmp 145) _ rfl rfl rfl (unhide HC1) ?_
           rintro e wa ⟨rfl, hSa, hga⟩
           refine ⟨_, rfl, ?_⟩
           obtain ⟨hRa, c3a, hLa⟩ := HD.out.claim hSa hga
           refine hK.out _ _ (c3a) (fun hJ1 => ?_)
           clear hK K
           simp only [fGa, fGs, fGz, Act.put, fSa, fSz, fSs]
           refine wpAnyH_ready (rs := [8]) (by kernel_rfl) (by simp) (AllReadyH.cons rfl (fun K hK => ?_) AllReadyH.nil)
           refine step_call2C (by rfl) 23 rclaim_enter (.tmp 150) (.tmp 151) _ rfl rfl rfl (rclaim_calls hRa x3) ?_
           rintro e wb ⟨rfl, hRb, hgb⟩
           rw [HBB.out]
           refine ⟨_, rfl, ?_⟩
           have hLb := hLa wb hRb hgb
           have c3b : wb.cell? ⟨gx, 3, none⟩ = some (.pointer (some ⟨gr, 0, none⟩)) := by obtain ⟨_, _, _, _, _, _, _, q, _⟩ := hLb.l6.cells; exact q
           refine hK.out _ _ (c3b) (fun hJ2 => ?_)
           clear hK K
           simp only [fGa, fGs, fGz, Act.put, fSa, fSz, fSs]
           refine wpAnyH_take (i := 9) (v := .bool false) rfl (by kernel_rfl) (by kernel_rfl) (by kernel_rfl) (fun _ _ _ h => h) (Or.inl ⟨by rfl, fun w hSw => by go_simp⟩) (by assumption) ?_
           simp only [fGa, fGs, fGz, Act.put, fSa, fSz, fSs]
           refine wpAnyH_done (by kernel_rfl) ?_ _
           have HQ : Hid (∃ m1 m2, Ld w B gx SC wb IMS p gl gm V m1 g gw m2 gr gb fr to_ (takenW fr to_ (newW (to_ - fr)) (tk.take (i3 + 1))) (takenR fr to_ (List.replicate (to_ - fr) true) (tk.take (i3 + 1)))) := by rw [HSW.out, HSR.out]; exact hide ⟨_, _, hLb⟩
           clear hLa hLb hRa hRb hSa hga hgb c3 c3a c3b hHeld hJ1 hJ2 HD HC1 HBB HSW HSR
           go_wp2
           go_roundw
           case rel => exact ⟨i3 + 1, by omega, by go_num, HQ⟩
           case measure => simp [intOf]; omega
         · have hex3 : ((i3 : Int) < (tl : Int) ∧ ¬ (i3 : Int) < 400) ∨ ¬ (i3 : Int) < (tl : Int) := by have := HM3.out; omega
           have HQ : Hid (∃ m1 m2, Ld w B gx SC wr IMS p gl gm V m1 g gw m2 gr gb fr to_ (takenW fr to_ (newW (to_ - fr)) (tk.take 400)) (takenR fr to_ (List.replicate (to_ - fr) true) (tk.take 400))) := by
            have e1 := isT_len HTK.out
            have e2 := HM3.out
            have e : tk.take i3 = tk.take 400 := by
             by_cases h4 : 400 ≤ tl
             · rw [show i3 = 400 by omega]
             · rw [List.take_of_length_le (by omega), List.take_of_length_le (by omega)]
            rw [← e]
            exact HL
           have HKI : Hid ((wholeI sn 2 200).toNat = k) := hide (by rw [HN.out]; rfl)
           have HFI : Hid (frI sn fn = fr) := hide (by unfold frI; rw [HN.out, HFR.out]; rfl)
           have HTI : Hid (toI sn fn tn = to_) := hide (by unfold toI; rw [HFI.out, HN.out, HDL.out, HTO.out]; rfl)
           clear HL
           rcases hex3 with ⟨hy1, hy2⟩ | hy1
           all_goals (
            go_wp2
            go_ret
            obtain ⟨m1, m2, hq⟩ := HQ.out
            first | (refine ⟨gx, rfl, p, gl, gm, V, m1, g, gw, m2, gr, gb, ?_⟩; fail_if_success (exact HQ); skip) | refine ⟨gx, p, gl, gm, V, m1, g, gw, m2, gr, gb, rfl, ?_⟩
            rw [HKI.out, HFI.out, HTI.out, HIM.out, HSC.out, HB.out]
            exact hq))
end Go.Proofs.YtdalbalphagmfaaGreatDoor

namespace Go.Proofs.YtdalbalphagmfaaGreatDoor
open Go.RowKit Go.Maps

end Go.Proofs.YtdalbalphagmfaaGreatDoor

namespace Go.Proofs.YtdalbalphagmfaaGreatDoor
open Go.RowKit Go.Maps

end Go.Proofs.YtdalbalphagmfaaGreatDoor

namespace Go.Proofs.YtdalbalphagmfaaGreatDoor
open Go.RowKit Go.Maps

end Go.Proofs.YtdalbalphagmfaaGreatDoor
