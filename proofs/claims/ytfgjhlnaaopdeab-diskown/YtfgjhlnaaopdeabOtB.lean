/- made: a disk, and the writes brought into it. -/
import Derived.Test.YtfgjhlnaaopdeabOtA
namespace Go.Proofs.Ytfgjhlnaaopdeab
open Go.RowKit Go.Maps

def mapW (n : Nat) (l : Ats) : Ats := l.map fun a => ((modN a.1 n : Nat), secOf a.2)
def madeL (n : Nat) (l : Ats) : Ats := mapW n (l.take 100)
theorem mapW_step {n k : Nat} {l : Ats} (hk : k < l.length) : mapW n (l.take (k + 1)) = mapW n (l.take k) ++ [(((modN (l.getD k dA).1 n : Nat) : Int), secOf (l.getD k dA).2)] := by
  unfold mapW
  rw [List.take_succ_eq_append_getElem hk, List.map_append, getD_eq hk]
  rfl
theorem mod_enter (v u : Value) (W : World) : (callFunc 16 #[v, u]).run Try.prog W = .ok (.enter 16 #[v, u]) W := by kernel_rfl
theorem sector_enter (v : Value) (W : World) : (callFunc 17 #[v]).run Try.prog W = .ok (.enter 17 #[v]) W := by kernel_rfl
theorem madeL_ok {n : Nat} (h0 : 0 < n) {l : Ats} (hl : ∀ a ∈ l, ∀ y ∈ a.2, 0 ≤ y ∧ y ≤ 255) : AtsOk n (madeL n l) := by
  intro a ha
  obtain ⟨c, hc, rfl⟩ := List.mem_map.1 ha
  have := modN_lt c.1 h0
  exact ⟨by show (0 : Int) ≤ ((modN c.1 n : Nat) : Int); omega, by show ((modN c.1 n : Nat) : Int) < n; omega, secOf_is (hl c (List.mem_of_mem_take hc))⟩
theorem madeL_len (n : Nat) (l : Ats) : (madeL n l).length ≤ 100 := by
  unfold madeL mapW
  rw [List.length_map, List.length_take]
  omega
theorem IsWr.bytes {w : World} {v : Value} {l : Ats} (h : IsWr w v l) : ∀ a ∈ l, ∀ y ∈ a.2, 0 ≤ y ∧ y ≤ 255 := by
  obtain ⟨_, _, _, _, _, hc⟩ := h.val
  intro a ha
  obtain ⟨j, hj, rfl⟩ := List.getElem_of_mem ha
  obtain ⟨_, _, _, hcell⟩ := hc (by omega)
  obtain ⟨_, u, _, hu⟩ := hcell j hj
  rw [getD_eq hj] at hu
  exact hu.mem
set_option maxRecDepth 100000 in
set_option maxHeartbeats 4000000 in
theorem made_calls {w : World} {v : Value} {l : Ats} {x : Int} (h : IsWr w v l) :
    Calls Try.prog 9 #[.int .i64 x, v] w fun e w' => ∃ p gl gm v', e = .returned (.tuple #[.pointer (some ⟨p, 0, none⟩), .int .i64 ((2 + modN x 63 : Nat) : Int), v']) ∧
      Dk w' p gl gm (fun _ => .slice none 0 0) (zeroD (2 + modN x 63)) ∧ w.heap.size ≤ p ∧ w.heap.size ≤ gl ∧ w.heap.size ≤ gm ∧ IsWs w' v' (madeL (2 + modN x 63) l) ∧ Below w.heap.size w w' := by
  have hx63 := modN_lt x (m := 63) (by decide)
  have HM0 := hide (mod_calls (w := w) (x := x) (m := 63) (by decide) (by decide))
  obtain ⟨n, hn⟩ : ∃ n, 2 + modN x 63 = n := ⟨_, rfl⟩
  have hn2 : IntKind.i64.wrap (2 + ((modN x 63 : Nat) : Int)) = (n : Int) := by
    rw [show 2 + ((modN x 63 : Nat) : Int) = (n : Int) by omega]
    exact IntWalk.i64_in _ (by omega)
  have hn3 : 2 + ((modN x 63 : Nat) : Int) = (n : Int) := by omega
  have hnlo : 2 ≤ n := by omega
  have hnhi : n ≤ 64 := by omega
  rw [hn]
  generalize modN x 63 = xm at *
  have HNEW : Hid (∀ W, Calls Try.prog 24 #[.int .i64 (n : Int)] W fun e w' => ∃ p gl gm V, e = .returned (.tuple #[.pointer (some ⟨p, 0, none⟩), .int .i64 0]) ∧ Dk w' p gl gm V (zeroD n) ∧ W.heap.size ≤ p ∧ W.heap.size ≤ gl ∧ W.heap.size ≤ gm ∧ (∀ i, V i = .slice none 0 0) ∧ Below W.heap.size W w') := fun W => new_calls hnlo (by omega)
  have HH := hide h
  obtain ⟨a, cap, rfl, hlc, hcm, hcells⟩ := h.val
  have HC := hide hcells
  have HST := hide (fun k (hk : k < l.length) => mapW_step (n := n) hk)
  have HEND : Hid (∀ k, k ≤ l.length → k ≤ 100 → (k = l.length ∨ k = 100) → mapW n (l.take k) = madeL n l) := fun k h1 h2 h3 => by
    unfold madeL
    rcases h3 with h3 | h3
    · rw [h3, List.take_of_length_le (Nat.le_refl _), List.take_of_length_le (by omega)]
    · rw [h3]
  have HLEN : Hid (∀ k, k ≤ l.length → (mapW n (l.take k)).length = k) := fun k hk => by unfold mapW; rw [List.length_map, List.length_take]; omega
  clear h hcells hn hx63
  generalize hm : l.length = m at *
  have HM := hide hm
  have hn5 := hn2
  have HN2 := hide hn2
  clear hm
  go_enter Try.func9, Try.ntmps9
  go_wp2_with fail
  refine (unhide HM0).mono ?_
  rintro e w1 ⟨rfl, hw1⟩
  obtain rfl := hw1.symm
  clear HM0
  go_wp2
  go_loopw [8, 9] (fun ov iv wr => ∃ k : Nat, k ≤ m ∧ k ≤ 100 ∧ iv = .int .i64 (k : Int) ∧ OwnWs wr w.heap.size ov (mapW n (l.take k)) ∧ Below w.heap.size w wr) (fun _ iv _ => m - (intOf iv).toNat)
  case atStart => exact ⟨0, by omega, by omega, rfl, by simpa [mapW] using OwnWs.nil w w.heap.size, Below.refl _ _⟩
  case round =>
    obtain ⟨k, hk, hk2, rfl, hown, hnx⟩ := hrel
    have hsz := hnx.size
    obtain ⟨oa, oc, rfl⟩ := hown.shape
    have hon := unhide HLEN k hk
    rw [hon] at hown ⊢
    by_cases hlt : k < m
    · by_cases hlt2 : k < 100
      · obtain ⟨b, off, rfl, hcell⟩ := unhide HC (by omega)
        obtain ⟨h1, u, h2, hu⟩ := hcell k hlt
        obtain ⟨ua, un, uc, rfl⟩ := hu.shape
        have hbw := World.block_lt_of_cell? w _ h1
        have HSW : Hid (∀ W, Below w.heap.size w W → W.cell? ⟨b, off + k * 2, none⟩ = some (.int .i64 (l.getD k dA).1) ∧ W.cell? ⟨b, off + (k * 2 + 1), none⟩ = some (.slice ua un uc)) := fun W hW =>
          ⟨(hW.cell (p := ⟨b, off + k * 2, none⟩) hbw).trans h1, (hW.cell (p := ⟨b, off + (k * 2 + 1), none⟩) hbw).trans h2⟩
        have HSS : Hid (∀ W, Below wr.heap.size wr W → W.cell? ⟨b, off + k * 2, none⟩ = some (.int .i64 (l.getD k dA).1) ∧ W.cell? ⟨b, off + (k * 2 + 1), none⟩ = some (.slice ua un uc)) := fun W hW => unhide HSW W (hnx.trans (hW.mono hsz))
        have hul : (l.getD k dA).2.length ≤ 9223372036854775807 := by
          obtain ⟨_, a', c', hv, h5, h6, _⟩ := hu
          omega
        have HSEC : Hid (∀ W, Below wr.heap.size wr W → Calls Try.prog 17 #[.slice ua un uc] W fun e w' => ∃ g, e = .returned (.slice (some ⟨g, 0, none⟩) 512 512) ∧ Own8 w' W.heap.size (.slice (some ⟨g, 0, none⟩) 512 512) (secOf (l.getD k dA).2) ∧ Below W.heap.size W w') := fun W hW =>
          sector_calls ((hu.below hnx).below hW) hul
        have HMOD : Hid (∀ W, Calls Try.prog 16 #[.int .i64 (l.getD k dA).1, .int .i64 (n : Int)] W fun e w' => e = .returned (.int .i64 ((modN (l.getD k dA).1 n : Nat) : Int)) ∧ w' = W) := fun W => mod_calls (by omega) (by omega)
        have HST2 := hide (unhide HST k hlt)
        have HO := hide hown
        have HOL := hide hon
        have HNX := hide hnx
        clear hcell h1 h2 hu hown hon hnx
        generalize (l.getD k dA).1 = xn at *
        generalize secOf (l.getD k dA).2 = sec at *
        generalize modN xn n = q at *
        have hd1 : decide ((k : Int) < (m : Int)) = true := by simpa using hlt
        have hd2 : decide ((k : Int) < 100) = true := by simp; omega
        go_wp2
        refine wp_region_held_drew (S := fun W => W.cell? ⟨b, off + k * 2, none⟩ = some (.int .i64 xn) ∧ W.cell? ⟨b, off + (k * 2 + 1), none⟩ = some (.slice ua un uc)) (by kernel_rfl) (unhide HSS _ (Below.refl _ _).drew) (fun hHeld => ?_)
        refine wpAnyH_take (i := 0) (v := .slice oa k oc) rfl (by kernel_rfl) (by kernel_rfl) (by kernel_rfl) (fun _ _ _ h => h) (Or.inl ⟨by rfl, fun w hSw => by obtain ⟨hS1, hS2⟩ := hSw; go_simp⟩) (by assumption) ?_
        simp only [List.getElem_toArray, List.getElem_cons_zero, Act.put, List.setIfInBounds_toArray, List.set_cons_zero, List.set_cons_succ]
        refine wpAnyH_take (i := 1) (v := .slice (some ⟨b, off, none⟩) m cap) rfl (by kernel_rfl) (by kernel_rfl) (by kernel_rfl) (fun _ _ _ h => h) (Or.inl ⟨by rfl, fun w hSw => by obtain ⟨hS1, hS2⟩ := hSw; go_simp⟩) (by assumption) ?_
        simp only [List.getElem_toArray, List.getElem_cons_succ, List.getElem_cons_zero, Act.put, List.setIfInBounds_toArray, List.set_cons_zero, List.set_cons_succ]
        refine wpAnyH_take (i := 2) (v := .int .i64 (k : Int)) rfl (by kernel_rfl) (by kernel_rfl) (by kernel_rfl) (fun _ _ _ h => h) (Or.inl ⟨by rfl, fun w hSw => by obtain ⟨hS1, hS2⟩ := hSw; go_simp⟩) (by assumption) ?_
        simp only [List.getElem_toArray, List.getElem_cons_succ, List.getElem_cons_zero, Act.put, List.setIfInBounds_toArray, List.set_cons_zero, List.set_cons_succ]
        refine wpAnyH_take (i := 3) (v := .pointer (some ⟨b, off + k * 2, none⟩)) rfl (by kernel_rfl) (by kernel_rfl) (by kernel_rfl) (fun _ _ _ h => h) (Or.inl ⟨by rfl, fun w hSw => by obtain ⟨hS1, hS2⟩ := hSw; go_simp⟩) (by assumption) ?_
        simp only [List.getElem_toArray, List.getElem_cons_succ, List.getElem_cons_zero, Act.put, List.setIfInBounds_toArray, List.set_cons_zero, List.set_cons_succ]
        refine wpAnyH_take (i := 4) (v := .pointer (some ⟨b, off + k * 2, none⟩)) rfl (by kernel_rfl) (by kernel_rfl) (by kernel_rfl) (fun _ _ _ h => h) (Or.inl ⟨by rfl, fun w hSw => by obtain ⟨hS1, hS2⟩ := hSw; go_simp⟩) (by assumption) ?_
        simp only [List.getElem_toArray, List.getElem_cons_succ, List.getElem_cons_zero, Act.put, List.setIfInBounds_toArray, List.set_cons_zero, List.set_cons_succ]
        refine wpAnyH_take (i := 5) (v := .int .i64 xn) rfl (by kernel_rfl) (by kernel_rfl) (by kernel_rfl) (fun _ _ _ h => h) (Or.inl ⟨by rfl, fun w hSw => by obtain ⟨hS1, hS2⟩ := hSw; go_simp⟩) (by assumption) ?_
        simp only [List.getElem_toArray, List.getElem_cons_succ, List.getElem_cons_zero, Act.put, List.setIfInBounds_toArray, List.set_cons_zero, List.set_cons_succ]
        refine wpAnyH_take (i := 6) (v := .int .i64 (n : Int)) rfl (by kernel_rfl) (by kernel_rfl) (by kernel_rfl) (fun _ _ _ h => h) (Or.inl ⟨by rfl, fun w hSw => by obtain ⟨hS1, hS2⟩ := hSw; go_simp⟩) (by assumption) ?_
        simp only [List.getElem_toArray, List.getElem_cons_succ, List.getElem_cons_zero, Act.put, List.setIfInBounds_toArray, List.set_cons_zero, List.set_cons_succ]
        refine wpAnyH_take (i := 8) (v := .slice (some ⟨b, off, none⟩) m cap) rfl (by kernel_rfl) (by kernel_rfl) (by kernel_rfl) (fun _ _ _ h => h) (Or.inl ⟨by rfl, fun w hSw => by obtain ⟨hS1, hS2⟩ := hSw; go_simp⟩) (by assumption) ?_
        simp only [List.getElem_toArray, List.getElem_cons_succ, List.getElem_cons_zero, Act.put, List.setIfInBounds_toArray, List.set_cons_zero, List.set_cons_succ]
        refine wpAnyH_take (i := 9) (v := .int .i64 (k : Int)) rfl (by kernel_rfl) (by kernel_rfl) (by kernel_rfl) (fun _ _ _ h => h) (Or.inl ⟨by rfl, fun w hSw => by obtain ⟨hS1, hS2⟩ := hSw; go_simp⟩) (by assumption) ?_
        simp only [List.getElem_toArray, List.getElem_cons_succ, List.getElem_cons_zero, Act.put, List.setIfInBounds_toArray, List.set_cons_zero, List.set_cons_succ]
        refine wpAnyH_take (i := 10) (v := .pointer (some ⟨b, off + k * 2, none⟩)) rfl (by kernel_rfl) (by kernel_rfl) (by kernel_rfl) (fun _ _ _ h => h) (Or.inl ⟨by rfl, fun w hSw => by obtain ⟨hS1, hS2⟩ := hSw; go_simp⟩) (by assumption) ?_
        simp only [List.getElem_toArray, List.getElem_cons_succ, List.getElem_cons_zero, Act.put, List.setIfInBounds_toArray, List.set_cons_zero, List.set_cons_succ]
        refine wpAnyH_take (i := 11) (v := .pointer (some ⟨b, off + (k * 2 + 1), none⟩)) rfl (by kernel_rfl) (by kernel_rfl) (by kernel_rfl) (fun _ _ _ h => h) (Or.inl ⟨by rfl, fun w hSw => by obtain ⟨hS1, hS2⟩ := hSw; go_simp⟩) (by assumption) ?_
        simp only [List.getElem_toArray, List.getElem_cons_succ, List.getElem_cons_zero, Act.put, List.setIfInBounds_toArray, List.set_cons_zero, List.set_cons_succ]
        refine wpAnyH_take (i := 12) (v := .slice ua un uc) rfl (by kernel_rfl) (by kernel_rfl) (by kernel_rfl) (fun _ _ _ h => h) (Or.inl ⟨by rfl, fun w hSw => by obtain ⟨hS1, hS2⟩ := hSw; go_simp⟩) (by assumption) ?_
        simp only [List.getElem_toArray, List.getElem_cons_succ, List.getElem_cons_zero, Act.put, List.setIfInBounds_toArray, List.set_cons_zero, List.set_cons_succ]
        refine wpAnyH_ready (rs := [7]) (by kernel_rfl) (by simp) (AllReadyH.cons rfl (fun K hK => ?_) AllReadyH.nil)
        refine step_call2Q rfl 16 mod_enter (.tmp 30) (.tmp 31) _ rfl rfl rfl (unhide HMOD _) ?_
        rintro e w2 ⟨rfl, rfl⟩
        refine ⟨_, rfl, ?_⟩
        refine hK.out _ _ (hHeld) (fun hHeld1 => ?_)
        clear hK K
        simp only [List.getElem_toArray, List.getElem_cons_succ, List.getElem_cons_zero, Act.put, List.setIfInBounds_toArray, List.set_cons_zero, List.set_cons_succ]
        refine wpAnyH_ready (rs := [13]) (by kernel_rfl) (by simp) (AllReadyH.cons rfl (fun K hK => ?_) AllReadyH.nil)
        refine step_call1Q rfl 17 sector_enter (.tmp 37) _ rfl rfl (unhide HSEC _ (Below.refl _ _).drew) ?_
        rintro e w2 ⟨gs, rfl, hu2, hb2'⟩
        have hb2 : Below wr.heap.size wr w2 := below_drew hb2'
        have hO2 := HO.out.below hb2
        refine ⟨_, rfl, ?_⟩
        refine hK.out _ _ (unhide HSS _ hb2) (fun hHeld2 => ?_)
        clear hK K
        simp only [List.getElem_toArray, List.getElem_cons_succ, List.getElem_cons_zero, Act.put, List.setIfInBounds_toArray, List.set_cons_zero, List.set_cons_succ]
        refine wpAnyH_take (i := 14) (v := .agg #[.int .i64 (q : Int), .slice (some ⟨gs, 0, none⟩) 512 512]) rfl (by kernel_rfl) (by kernel_rfl) (by kernel_rfl) (fun _ _ _ h => h) (Or.inl ⟨by rfl, fun w hSw => by obtain ⟨hS1, hS2⟩ := hSw; go_simp⟩) (by assumption) ?_
        simp only [List.getElem_toArray, List.getElem_cons_succ, List.getElem_cons_zero, Act.put, List.setIfInBounds_toArray, List.set_cons_zero, List.set_cons_succ]
        refine wpAnyH_ready (rs := [15]) (by kernel_rfl) (by simp) (AllReadyH.cons rfl (fun K hK => ?_) AllReadyH.nil)
        refine step_buildW rfl (.tmp 39) rfl rfl ?_
        have hbn := (Below.refl w2.heap.size w2).alloc (Nat.le_refl _) (.cells [.int .i64 (q : Int), .slice (some ⟨gs, 0, none⟩) 512 512].toArray 25)
        have hA3 := Arr.new w2 [.int .i64 (q : Int), .slice (some ⟨gs, 0, none⟩) 512 512] 25
        have hO3 := hO2.below hbn
        have hu3 := hu2.below hbn
        have hb3 := below_then hb2 hbn
        refine hK.out _ _ (unhide HSS _ hb3) (fun hHeld3 => ?_)
        clear hK K
        simp only [List.getElem_toArray, List.getElem_cons_succ, List.getElem_cons_zero, Act.put, List.setIfInBounds_toArray, List.set_cons_zero, List.set_cons_succ]
        generalize w2.alloc (.cells [.int .i64 (q : Int), .slice (some ⟨gs, 0, none⟩) 512 512].toArray 25) = w3 at *
        refine wpAnyH_ready (rs := [16]) (by kernel_rfl) (by simp) (AllReadyH.cons rfl (fun K hK => ?_) AllReadyH.nil)
        refine step_appW (B := w.heap.size) rfl (.tmp 25) (.tmp 40) rfl rfl hO3 rfl hA3 (hu3.mono (Nat.zero_le _)) (by rw [HOL.out]; omega) (by have := hb3.size; omega) ?_
        intro v6 w6 hO6 hg6 hv6
        have hbb6 : Below w.heap.size w w6 := below_app (HNX.out.trans (hb3.mono hsz)) hg6 (by have := hb3.size; omega) hv6
        have hs6 : w6.cell? ⟨b, off + k * 2, none⟩ = some (.int .i64 xn) ∧ w6.cell? ⟨b, off + (k * 2 + 1), none⟩ = some (.slice ua un uc) := unhide HSW _ hbb6
        obtain ⟨ya, yc, hv6'⟩ := hO6.shape
        rw [List.length_append, List.length_singleton, HOL.out] at hv6'
        subst hv6'
        refine hK.out _ _ (hs6) (fun hHeld5 => ?_)
        clear hK K
        simp only [List.getElem_toArray, List.getElem_cons_succ, List.getElem_cons_zero, Act.put, List.setIfInBounds_toArray, List.set_cons_zero, List.set_cons_succ]
        refine wpAnyH_take (i := 17) (v := .slice ya (k + 1) yc) rfl (by kernel_rfl) (by kernel_rfl) (by kernel_rfl) (fun _ _ _ h => h) (Or.inl ⟨by rfl, fun w hSw => by obtain ⟨hS1, hS2⟩ := hSw; go_simp⟩) (by assumption) ?_
        simp only [List.getElem_toArray, List.getElem_cons_succ, List.getElem_cons_zero, Act.put, List.setIfInBounds_toArray, List.set_cons_zero, List.set_cons_succ]
        refine wpAnyH_done (by kernel_rfl) ?_ _
        rw [← HST2.out] at hO6
        go_wp2
        go_roundw
        case rel => exact ⟨k + 1, by omega, by omega, by go_num, hO6, hbb6⟩
        case measure => simp [intOf]; omega
      · have hd1 : decide ((k : Int) < (m : Int)) = true := by simpa using hlt
        have hd2 : decide ((k : Int) < 100) = false := by simp; omega
        have HE := hide (unhide HEND k hk hk2 (by omega))
        have HO := hide hown
        have HNX := hide hnx
        clear hown hon hnx HC
        go_wp2_with fail
        refine (unhide HNEW wr).mono ?_
        rintro e w2 ⟨p, gl, gm, V, rfl, hD, h1, h2, h3, hV, hb⟩
        have hVe : V = fun _ => .slice none 0 0 := funext hV
        subst hVe
        have HFIN := hide (show Dk w2 p gl gm (fun _ => .slice none 0 0) (zeroD n) ∧ w.heap.size ≤ p ∧ w.heap.size ≤ gl ∧ w.heap.size ≤ gm ∧ IsWs w2 (.slice oa k oc) (madeL n l) ∧ Below w.heap.size w w2 from
          ⟨hD, by omega, by omega, by omega, by rw [← HE.out]; exact (HO.out.below hb).isWs, HNX.out.trans (hb.mono hsz)⟩)
        clear hV hD h1 h2 h3 hb
        go_wp2
        refine bodyPost_ret (v := .tuple #[.pointer (some ⟨p, 0, none⟩), .int .i64 (n : Int), .slice oa k oc]) (by simp [results, Try.results9, go_sem]) rfl ?_
        exact ⟨p, gl, gm, _, rfl, HFIN.out⟩
    · have hd1 : decide ((k : Int) < (m : Int)) = false := by simp; omega
      have HE := hide (unhide HEND k hk hk2 (by omega))
      have HO := hide hown
      have HNX := hide hnx
      clear hown hon hnx HC
      go_wp2_with fail
      refine (unhide HNEW wr).mono ?_
      rintro e w2 ⟨p, gl, gm, V, rfl, hD, h1, h2, h3, hV, hb⟩
      have hVe : V = fun _ => .slice none 0 0 := funext hV
      subst hVe
      have HFIN := hide (show Dk w2 p gl gm (fun _ => .slice none 0 0) (zeroD n) ∧ w.heap.size ≤ p ∧ w.heap.size ≤ gl ∧ w.heap.size ≤ gm ∧ IsWs w2 (.slice oa k oc) (madeL n l) ∧ Below w.heap.size w w2 from
        ⟨hD, by omega, by omega, by omega, by rw [← HE.out]; exact (HO.out.below hb).isWs, HNX.out.trans (hb.mono hsz)⟩)
      clear hV hD h1 h2 h3 hb
      go_wp2
      refine bodyPost_ret (v := .tuple #[.pointer (some ⟨p, 0, none⟩), .int .i64 (n : Int), .slice oa k oc]) (by simp [results, Try.results9, go_sem]) rfl ?_
      exact ⟨p, gl, gm, _, rfl, HFIN.out⟩
end Go.Proofs.Ytfgjhlnaaopdeab
