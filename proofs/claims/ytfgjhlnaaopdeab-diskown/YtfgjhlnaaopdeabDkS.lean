/- The document's Write. -/
import Derived.Test.YtfgjhlnaaopdeabDkM
namespace Go.Proofs.Ytfgjhlnaaopdeab
open Go.RowKit Go.Maps

theorem take_succ_ats {l : Ats} {k : Nat} (hk : k < l.length) : l.take (k + 1) = l.take k ++ [((l.getD k dA).1, (l.getD k dA).2)] := by
  rw [List.take_succ_eq_append_getElem hk, getD_eq hk]
set_option maxRecDepth 100000 in
set_option maxHeartbeats 2000000 in
theorem rwrite_out {w : World} {a1 a2 : Option Addr} {n1 n2 c1 c2 : Nat} {n x rd wt fl : Int} {v : Value} (hx : x < 0 ∨ n ≤ x) :
    Calls Try.prog 41 #[.agg #[.int .i64 n, .slice a1 n1 c1, .slice a2 n2 c2, .int .i64 rd, .int .i64 wt, .int .i64 fl], .int .i64 x, v] w fun e w' => e = .returned (.tuple #[.agg #[.int .i64 n, .slice a1 n1 c1, .slice a2 n2 c2, .int .i64 rd, .int .i64 wt, .int .i64 fl], .int .i64 31]) ∧ Below w.heap.size w w' := by
  by_cases h0 : x < 0
  · clear hx
    go_enter Try.func41, Try.ntmps41
    go_wp2
    refine bodyPost_ret (v := .tuple #[.agg #[.int .i64 n, .slice a1 n1 c1, .slice a2 n2 c2, .int .i64 rd, .int .i64 wt, .int .i64 fl], .int .i64 31]) ?_ rfl ?_
    · simp [results, Try.results41, go_sem]
    · exact ⟨rfl, ((Below.refl _ _).alloc (Nat.le_refl _) _).alloc (by simp) _⟩
  · have h1 : decide (x < 0) = false := by simpa using h0
    have h2 : decide (n ≤ x) = true := by rcases hx with hx | hx; · exact absurd hx h0
                                          · simpa using hx
    clear hx h0
    go_enter Try.func41, Try.ntmps41
    go_wp2
    refine bodyPost_ret (v := .tuple #[.agg #[.int .i64 n, .slice a1 n1 c1, .slice a2 n2 c2, .int .i64 rd, .int .i64 wt, .int .i64 fl], .int .i64 31]) ?_ rfl ?_
    · simp [results, Try.results41, go_sem]
    · exact ⟨rfl, ((Below.refl _ _).alloc (Nat.le_refl _) _).alloc (by simp) _⟩
set_option maxRecDepth 100000 in
set_option maxHeartbeats 2000000 in
theorem rwrite_size {w : World} {a1 a2 ba : Option Addr} {n1 n2 c1 c2 bn bc i : Nat} {n rd wt fl : Int} (hi : (i : Int) < n) (hb : bn ≠ 512) :
    Calls Try.prog 41 #[.agg #[.int .i64 n, .slice a1 n1 c1, .slice a2 n2 c2, .int .i64 rd, .int .i64 wt, .int .i64 fl], .int .i64 (i : Int), .slice ba bn bc] w fun e w' => e = .returned (.tuple #[.agg #[.int .i64 n, .slice a1 n1 c1, .slice a2 n2 c2, .int .i64 rd, .int .i64 wt, .int .i64 fl], .int .i64 32]) ∧ Below w.heap.size w w' := by
  have h1 : decide ((i : Int) < 0) = false := by simp
  have h2 : decide (n ≤ (i : Int)) = false := by simpa using hi
  have hb2 : ¬ (bn : Int) = 512 := by omega
  clear hi
  go_enter Try.func41, Try.ntmps41
  go_wp2
  refine bodyPost_ret (v := .tuple #[.agg #[.int .i64 n, .slice a1 n1 c1, .slice a2 n2 c2, .int .i64 rd, .int .i64 wt, .int .i64 fl], .int .i64 32]) ?_ rfl ?_
  · simp [results, Try.results41, go_sem]
  · exact ⟨rfl, ((Below.refl _ _).alloc (Nat.le_refl _) _).alloc (by simp) _⟩
set_option maxRecDepth 100000 in
set_option maxHeartbeats 4000000 in
theorem rwrite_good {w : World} {a1 a2 ba : Option Addr} {n1 n2 c1 c2 bc i : Nat} {n rd wt fl : Int} {l : Ats} {s : List Int} (h : IsAts w (.slice a2 n2 c2) l) (hs : IsB w (.slice ba 512 bc) s) (hi : (i : Int) < n) (hl : l.length ≤ 549755813888) (hw0 : 0 ≤ wt) (hw1 : wt ≤ 1152921504606846976) :
    Calls Try.prog 41 #[.agg #[.int .i64 n, .slice a1 n1 c1, .slice a2 n2 c2, .int .i64 rd, .int .i64 wt, .int .i64 fl], .int .i64 (i : Int), .slice ba 512 bc] w fun e w' => ∃ a3 n3 c3, e = .returned (.tuple #[.agg (rdC n a1 n1 c1 a3 n3 c3 rd (wt + 1) fl).toArray, .int .i64 0]) ∧ IsAts w' (.slice a3 n3 c3) (l ++ [((i : Int), s)]) ∧ Below w.heap.size w w' := by
  have h1 : decide ((i : Int) < 0) = false := by simp
  have h2 : decide (n ≤ (i : Int)) = false := by simpa using hi
  have hsl : s.length = 512 := hs.lenEq.symm
  obtain ⟨a2', c2', e2, hp⟩ := h.shape
  injection e2 with e2a e2b e2c
  subst e2a e2b e2c
  have HCP : Hid (∀ W, Below w.heap.size w W → Calls Try.prog 51 #[.slice ba 512 bc] W fun e w' => ∃ u, e = .returned u ∧ Own8 w' W.heap.size u s ∧ Below W.heap.size W w') := fun W hW => copy_calls (hs.below hW) (by rw [hsl]; decide)
  have HA := hide h
  have hlen : l.length ≤ 9223372036854775807 := by omega
  have HTK : Hid (∀ k, k < l.length → l.take (k + 1) = l.take k ++ [((l.getD k dA).1, (l.getD k dA).2)]) := fun k hk => take_succ_ats hk
  have HTL : Hid (∀ k, k ≤ l.length → (l.take k).length = k) := fun k hk => by rw [List.length_take]; omega
  clear h hs hi hsl
  generalize hm : l.length = m at *
  have HM := hide hm
  clear hm
  have hZ0 : Arr ((w.alloc (.cells #[.int .i64 n, .slice a1 n1 c1, .slice a2 m c2, .int .i64 rd, .int .i64 wt, .int .i64 fl] 85)).alloc (.cells z36.toArray 85)) (w.heap.size + 1) 85 z36 := by
    have := Arr.new (w.alloc (.cells #[.int .i64 n, .slice a1 n1 c1, .slice a2 m c2, .int .i64 rd, .int .i64 wt, .int .i64 fl] 85)) z36 85
    rw [size_alloc] at this
    exact this
  have hX0 : Arr ((w.alloc (.cells #[.int .i64 n, .slice a1 n1 c1, .slice a2 m c2, .int .i64 rd, .int .i64 wt, .int .i64 fl] 85)).alloc (.cells z36.toArray 85)) w.heap.size 85 (rdC n a1 n1 c1 a2 m c2 rd wt fl) := (Arr.new w (rdC n a1 n1 c1 a2 m c2 rd wt fl) _).alloc _
  have hb0 : Below w.heap.size w ((w.alloc (.cells #[.int .i64 n, .slice a1 n1 c1, .slice a2 m c2, .int .i64 rd, .int .i64 wt, .int .i64 fl] 85)).alloc (.cells z36.toArray 85)) := ((Below.refl _ _).alloc (Nat.le_refl _) _).alloc (by simp) _
  go_enter Try.func41, Try.ntmps41
  go_wp2
  go_loopw [8, 9] (fun vv iv wr => ∃ k : Nat, k ≤ m ∧ iv = .int .i64 (k : Int) ∧ OwnAts wr w.heap.size vv (l.take k) ∧ Arr wr w.heap.size 85 (rdC n a1 n1 c1 a2 m c2 rd wt fl) ∧ Arr wr (w.heap.size + 1) 85 z36 ∧ Below w.heap.size w wr) (fun _ iv _ => m - (intOf iv).toNat)
  case atStart => exact ⟨0, by omega, rfl, by simpa using OwnAts.nil _ w.heap.size, hX0, hZ0, hb0⟩
  case round =>
    clear hX0 hZ0 hb0
    obtain ⟨k, hk, rfl, hown, hX, hZ, hnx⟩ := hrel
    have hsz := hnx.size
    obtain ⟨pa, pc, rfl⟩ := hown.shape
    rw [unhide HTL k hk] at hown ⊢
    have hx2 := hX.cell_of (j := 2) rfl
    have hxl := hX.lt
    by_cases hlt : k < m
    · obtain ⟨g, rfl, hle, hcm⟩ := hp (by omega)
      obtain ⟨z, hc1, hc2, hz⟩ := (HA.out.below hnx).elem (j := k) (by rw [HM.out]; exact hlt)
      obtain ⟨za, zn, zc, rfl⟩ := (Own8.isB hz).shape
      have HTk := hide (unhide HTK k hlt)
      have hAn := Arr.new wr [.int .i64 (l.getD k dA).1, .slice za zn zc] 104
      have hbn := (Below.refl wr.heap.size wr).alloc (Nat.le_refl _) (.cells [.int .i64 (l.getD k dA).1, .slice za zn zc].toArray 104)
      have HO2 := hide (hown.below hbn)
      have HZ2 := hide (hz.below hbn)
      have hsz2 : w.heap.size ≤ (wr.alloc (.cells [.int .i64 (l.getD k dA).1, .slice za zn zc].toArray 104)).heap.size := by simp; omega
      have HX2 := hide (hX.below hbn)
      have HZZ := hide (hZ.below hbn)
      have HNX := hide hnx
      have HTLk := hide (unhide HTL k hk)
      clear hown hz hX hZ hnx
      generalize (l.getD k dA).1 = y at *
      generalize (l.getD k dA).2 = ys at *
      go_wp2_with (first
        | (at_builtin; refine wpList_appAt rfl (.tmp 30) (.tmp 36) rfl rfl (unhide HO2) rfl hAn (unhide HZ2) (by rw [HTLk.out]; omega) hsz2 ?_; intro v6 w6 hO6 hg6 hv6))
      have hX6 := HX2.out.keep (hg6.block _ HX2.out.lt (HO2.out.ne HX2.out (by decide)).symm)
      have hZ6 := HZZ.out.keep (hg6.block _ HZZ.out.lt (HO2.out.ne HZZ.out (by decide)).symm)
      go_roundw
      case rel => exact ⟨k + 1, by omega, by go_num, by rw [HTk.out]; exact hO6, hX6, hZ6, below_app (HNX.out.trans (hbn.mono hsz)) hg6 hsz2 hv6⟩
      case measure => simp [intOf]; omega
    · have hkm : k = m := by omega
      have HTE : Hid (l.take k = l) := hide (List.take_of_length_le (by rw [HM.out]; omega))
      have HCu := hide (unhide HCP wr hnx)
      have HTLk := hide (unhide HTL k hk)
      have HO := hide hown
      have HX := hide hX
      have HZ := hide hZ
      have HNX := hide hnx
      have hkb : k ≤ 549755813888 := by omega
      clear hown hX hZ hnx hkm
      have hund := Try.underlying85
      go_wp2_with (first
        | (go_at_call 51; refine (unhide HCu).mono ?_; rintro e w2 ⟨u2, rfl, hu2, hb2⟩; obtain ⟨ua, un, uc, rfl⟩ := (Own8.isB hu2).shape; have hAn := Arr.new w2 [.int .i64 (i : Int), .slice ua un uc] 104; have hbn := (Below.refl w2.heap.size w2).alloc (Nat.le_refl _) (.cells [.int .i64 (i : Int), .slice ua un uc].toArray 104); have hO2 := (HO.out.below hb2).below hbn; have hu3 := (hu2.mono (Nat.zero_le _)).below hbn; have hX2 := (HX.out.below hb2).below hbn; have hZ2 := (HZ.out.below hb2).below hbn; have hsz2 : w.heap.size ≤ (w2.alloc (.cells [.int .i64 (i : Int), .slice ua un uc].toArray 104)).heap.size := (by have := hb2.size; simp; omega))
        | (at_builtin; refine wpList_appAt rfl (.tmp 38) (.tmp 43) rfl rfl hO2 rfl hAn hu3 (by rw [HTLk.out]; omega) hsz2 ?_; intro v6 w6 hO6 hg6 hv6; have hX6 := hX2.keep (hg6.block _ hX2.lt (hO2.ne hX2 (by decide)).symm); have hZ6 := hZ2.keep (hg6.block _ hZ2.lt (hO2.ne hZ2 (by decide)).symm); obtain ⟨ya, yn, yc, rfl⟩ := hO6.shapeN; have hc62 := hX6.cell_of (j := 2) rfl; have hf62 := hX6.frozen 2; have hc64 := hX6.cell_of (j := 4) rfl; have hf64 := hX6.frozen 4; have hX7 : Arr ((w6.setCell ⟨w.heap.size, 2, none⟩ (.slice ya yn yc)).setCell ⟨w.heap.size, 4, none⟩ (.int .i64 (wt + 1))) w.heap.size 85 (rdC n a1 n1 c1 ya yn yc rd (wt + 1) fl) := (hX6.set 2 _).set 4 _; have hZ7 : Arr ((w6.setCell ⟨w.heap.size, 2, none⟩ (.slice ya yn yc)).setCell ⟨w.heap.size, 4, none⟩ (.int .i64 (wt + 1))) (w.heap.size + 1) 85 z36 := (hZ6.other ⟨w.heap.size, 2, none⟩ _ (by simp)).other ⟨w.heap.size, 4, none⟩ _ (by simp))
        | (refine wpList_load_mid rfl 85 (.tmp 3) rfl w.heap.size 0 rfl (rdC n a1 n1 c1 ya yn yc rd (wt + 1) fl) _ hX7.range hund rfl info36 ?_)
        | (refine wpList_storeRow (cs := (rdC n a1 n1 c1 ya yn yc rd (wt + 1) fl)) rfl (.tmp 6) (.tmp 53) 85 rfl rfl rfl hZ7.there info36 (rdC_one _ _ _ _ _ _ _ _ _ _) ?_))
      have hg8a := grown_cell w6 w.heap.size 2 (.slice ya yn yc)
      have hg8b := grown_cell (w6.setCell ⟨w.heap.size, 2, none⟩ (.slice ya yn yc)) w.heap.size 4 (.int .i64 (wt + 1))
      have hg8c := grown_setCells ((w6.setCell ⟨w.heap.size, 2, none⟩ (.slice ya yn yc)).setCell ⟨w.heap.size, 4, none⟩ (.int .i64 (wt + 1))) (w.heap.size + 1) 0 (rdC n a1 n1 c1 ya yn yc rd (wt + 1) fl)
      have hXa := hX6.set 2 (.slice ya yn yc)
      have hI8 := ((hO6.isAts.other hg8a hX6 (by decide) (by decide)).other hg8b hXa (by decide) (by decide)).other hg8c hZ7 (by decide) (by decide)
      have hZ8 := hZ7.setAll (ds := (rdC n a1 n1 c1 ya yn yc rd (wt + 1) fl)) rfl
      have hB6 : Below w.heap.size w w6 := below_app ((HNX.out.trans (hb2.mono hsz)).trans (hbn.mono (by have := hb2.size; omega))) hg6 hsz2 hv6
      have hB8 : Below w.heap.size w (((w6.setCell ⟨w.heap.size, 2, none⟩ (.slice ya yn yc)).setCell ⟨w.heap.size, 4, none⟩ (.int .i64 (wt + 1))).setCells (w.heap.size + 1) 0 (rdC n a1 n1 c1 ya yn yc rd (wt + 1) fl)) := ((hB6.setCell (Nat.le_refl _) _).setCell (Nat.le_refl _) _).grown hg8c (by have := hB6.size; simp; omega) (fun j hj => by injection hj with hj; omega)
      rw [HTE.out] at hI8
      generalize ((w6.setCell ⟨w.heap.size, 2, none⟩ (.slice ya yn yc)).setCell ⟨w.heap.size, 4, none⟩ (.int .i64 (wt + 1))).setCells (w.heap.size + 1) 0 (rdC n a1 n1 c1 ya yn yc rd (wt + 1) fl) = w8 at *
      have hload : (loadVar 85 ⟨w.heap.size + 1, 0, none⟩).run Try.prog w8 = .ok (.agg (rdC n a1 n1 c1 ya yn yc rd (wt + 1) fl).toArray) w8 := run_loadVar_mid _ _ 0 _ _ _ hZ8.range hund rfl info36
      refine bodyPost_ret (v := .tuple #[.agg (rdC n a1 n1 c1 ya yn yc rd (wt + 1) fl).toArray, .int .i64 0]) ?_ rfl ?_
      · exact results2 rfl rfl rfl hload
      · exact ⟨ya, yn, yc, rfl, hI8, hB8⟩
end Go.Proofs.Ytfgjhlnaaopdeab
