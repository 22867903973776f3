/- TokenAgain: the walk. -/
import Derived.Test.YtcdilcjgmcamcabTkIn
import Derived.Test.YtcdilcjgmcamcabTkPt
import Derived.Test.YtcdilcjgmcamcabTkV3
import Derived.Deep.DeepCutAuto
namespace Go.Proofs.Ytcdilcjgmcamcab
open Go.RowKit Go.Maps Classical

theorem writ_bound (k : Int) (t : ByteArray) : (writL k t).length ≤ 4 * t.size + 3 := by
  unfold writL
  split
  · rw [len_data]; omega
  · split
    · have := quote_le t.data.toList; rw [len_data] at this; omega
    · simp
theorem printL_bound : ∀ (l : List Tok) (a : Bool) (M : Nat), (∀ t ∈ l, t.text.size ≤ M) → (printL l a).length ≤ l.length * (4 * M + 4)
  | [], _, _, _ => by simp [printL]
  | t :: l, a, M, h => by
    have h1 := printL_bound l (ap t.kind) M (fun x hx => h x (by simp [hx]))
    have h2 := writ_bound t.kind t.text
    have h3 := h t (by simp)
    have h4 : (if a && ap t.kind then [(32 : UInt8)] else []).length ≤ 1 := by split <;> simp
    rw [printL]
    simp only [List.length_append, List.length_cons, Nat.add_mul, Nat.one_mul]
    omega
theorem IsTk.pre {w : World} {a : Option Addr} {n c k : Nat} {l : List Tok} (h : IsTk w (.slice a n c) l) (hk : k ≤ n) : IsTk w (.slice a k c) (l.take k) := by
  obtain ⟨a', c', hv, h1, h2, h3, h4⟩ := h
  injection hv with e1 e2 e3
  subst e1 e2 e3
  refine ⟨a, c, by rw [List.length_take, Nat.min_eq_left hk], by rw [List.length_take]; omega, h2, h3, fun hp => ?_⟩
  rw [List.length_take] at hp
  obtain ⟨b, o, ha, hc⟩ := h4 (by omega)
  refine ⟨b, o, ha, fun j q hj hq => ?_⟩
  rw [List.length_take] at hj
  rw [hc j q (by omega) hq, List.getD_eq_getElem?_getD, List.getD_eq_getElem?_getD, List.getElem?_take_of_lt (by omega)]
theorem tmod_place (r : Int) (n : Nat) (hn : 0 < n) : ∃ k : Nat, k < n ∧ ((¬ r.tmod (n : Int) < 0 ∧ r.tmod (n : Int) = (k : Int)) ∨ (r.tmod (n : Int) < 0 ∧ r.tmod (n : Int) + (n : Int) = (k : Int))) := by
  have h1 := Int.tmod_lt_of_pos r (b := (n : Int)) (by omega)
  have h2 := Int.lt_tmod_of_pos r (b := (n : Int)) (by omega)
  by_cases h : r.tmod (n : Int) < 0
  · exact ⟨(r.tmod (n : Int) + n).toNat, by omega, Or.inr ⟨h, by omega⟩⟩
  · exact ⟨(r.tmod (n : Int)).toNat, by omega, Or.inl ⟨h, by omega⟩⟩
theorem set_get {l : List Tok} {k : Nat} {t : Tok} (h : k < l.length) : (l.set k t).getD k .nul = t := by
  rw [List.getD_eq_getElem?_getD, List.getElem?_set_self h]; rfl
theorem wrap_small {x : Int} {k n : Nat} (h : x = (k : Int)) (hk : k < n) (hn : n ≤ 100) : wrap64 x = (k : Int) := by
  rw [h]; unfold wrap64; omega
set_option maxRecDepth 100000 in
set_option maxHeartbeats 8000000 in
theorem tokenAgain_walk {v0 v1 v2 : Value} {l0 l2 : List Tok} {xs : List Int} (w : World) (h0 : IsTk w v0 l0) (h1 : IsI w v1 xs) (h2 : IsTk w v2 l2) (hsz : ∀ t ∈ l0, t.text.size ≤ 1048576) : Calls Try.prog 6 #[v0, v1, v2] w fun e w' => e = .returned (.bool true) ∧ Below w.heap.size w w' := by
  obtain ⟨a, c, rfl, hlc, hcm, _, _⟩ := id h0
  obtain ⟨_, a1, c1, rfl, hlc1, hcm1, _⟩ := id h1
  obtain ⟨a2, c2, rfl, hlc2, hcm2, _, _⟩ := id h2
  have H1 := hide (told_calls w)
  have HT0 := hide h0
  have HX := hide h1
  have HB2 := hide h2
  have HSZ := hide hsz
  generalize hn0 : l0.length = n0 at *
  have HN0 := hide hn0
  generalize hn1 : xs.length = n1 at *
  have HN1 := hide hn1
  generalize hn2 : l2.length = n2 at *
  have HN2 := hide hn2
  clear h0 h1 h2 hn0 hn1 hn2 hsz
  go_enter Try.func6, Try.ntmps6
  go_wp2_with fail
  refine (unhide H1).mono ?_
  rintro e w1 ⟨rfl, hb1⟩
  have HT1 := hide (HT0.out.below hb1)
  clear HT0 H1
  go_upto_if 19 with fail
  go_cut [0] (fun x wc => ∃ (n : Nat) (l : List Tok), x = .slice a n c ∧ IsTk w1 (.slice a n c) l ∧ l.length = n ∧ n ≤ c ∧ n ≤ 100 ∧ (∀ t ∈ l, t.text.size ≤ 1048576) ∧ w1 = wc)
  case first =>
    by_cases h3 : 100 < n0
    · have j3 : (100 : Int) < (n0 : Int) := by omega
      have j4 : (100 : Int) ≤ (c : Int) := by omega
      go_wp2
      go_meet
      exact ⟨100, l0.take 100, rfl, HT1.out.pre (by omega), by rw [List.length_take, HN0.out]; omega, by omega, by omega, fun t ht => HSZ.out t (List.mem_of_mem_take ht), rfl⟩
    · have j3 : ¬ (100 : Int) < (n0 : Int) := by omega
      go_wp2
      go_meet
      exact ⟨n0, l0, rfl, HT1.out, HN0.out, by omega, by omega, HSZ.out, rfl⟩
  case rest =>
  obtain ⟨n, l, rfl, hI, hln, hnc, hn3, hsz, rfl⟩ := hcut
  clear HT1 HN0 hlc HSZ
  have HLD := hide (laid_calls hI (by omega))
  rw [hln] at HLD
  have HN := hide hln
  have HSZ := hide hsz
  clear hI hln hsz
  go_wp2_with fail
  refine (unhide HLD).mono ?_
  rintro e w2 ⟨g, cg, rfl, hO2, hb2⟩
  have hO2 := hO2.mono hb1.size
  have hb12 := hb1.trans (hb2.mono hb1.size)
  have HO2 := hide hO2
  have hcg : n + 3 ≤ cg := by
    obtain ⟨a', c', hv, h1, _⟩ := hO2.isTk
    have hlen : (l ++ mks).length = n + 3 := by rw [List.length_append, HN.out]; rfl
    rw [hlen] at hv h1
    injection hv with e1 e2 e3
    subst e3
    exact h1
  clear hO2 HLD
  go_wp2_with fail
  go_loopw [8] (fun iv wq => ∃ i : Nat, i ≤ n1 + 1 ∧ i ≤ 21 ∧ iv = .int .i64 (i : Int) ∧ Hid (∃ L : List Tok, L.length = n ∧ (∀ t ∈ L, t.text.size ≤ 1048576) ∧ OwnT wq w.heap.size (.slice (some ⟨g, 0, none⟩) (n + 3) cg) (L ++ mks)) ∧ Below w.heap.size w wq) (fun iv _ => 22 - (intOf iv).toNat)
  case atStart => exact ⟨0, by omega, by omega, rfl, ⟨l, HN.out, HSZ.out, HO2.out⟩, hb12⟩
  case round =>
    rename World => w3
    obtain ⟨i, hin, hi2, rfl, ⟨L, hL, hLs, hO⟩, hbw⟩ := hrel
    clear HN HSZ HO2 hb1 hb2 hb12
    by_cases hlt : i ≤ n1 ∧ i ≤ 20
    · have hI : (i : Int) ≤ (n1 : Int) := by omega
      have hI2 : (i : Int) ≤ 20 := by omega
      have hIT : IsTk w3 (.slice (some ⟨g, 0, none⟩) n cg) L := by
        have := OwnT.isTkPre (l := L) (m := mks) (by rw [hL]; exact hO)
        rw [hL] at this
        exact this
      have HIT := hide hIT
      have HO := hide hO
      have HL := hide hL
      have HLS := hide hLs
      have HPB : Hid ((printL L false).length ≤ 100000000000) := by
        show _ ≤ _
        have h1 := printL_bound L false 1048576 hLs
        rw [hL] at h1
        have h2 : n * (4 * 1048576 + 4) ≤ 100 * (4 * 1048576 + 4) := Nat.mul_le_mul_right _ (by omega)
        omega
      have h0n := OwnT.nil w3 w3.heap.size
      have HL0 : Hid (([] : List Tok).length + L.length ≤ 1000000000000) := by show _ ≤ _; rw [hL]; simp; omega
      clear hIT hO hL hLs hlt
      go_wp2_with (first
        | (at_builtin; refine wpList_appTs rfl (.const (.slice none 0 0)) (.tmp 34) rfl rfl h0n rfl HIT.out HL0.out (Nat.le_refl _) ?_; intro v4 w4 hO4 hg4 hv4; (have hb4 : Below w3.heap.size w3 w4 := below_app (Below.refl _ _) hg4 (Nat.le_refl _) hv4); rw [List.nil_append] at hO4; (have HW4 := hide hO4.isTk); (have HIT4 := hide (HIT.out.below hb4)); (have HPR := hide (print_calls HIT4.out)); (obtain ⟨a4, c4, hv4e⟩ := hO4.shape); subst hv4e; clear hO4 hg4 hv4))
      refine (unhide HPR).mono ?_
      rintro e w5 ⟨rfl, hb5⟩
      have HRP := hide (rprint_calls (HW4.out.below hb5) HPB.out)
      rw [HL.out] at HRP ⊢
      have hb35 := hb4.trans (hb5.mono hb4.size)
      clear HPR HPB HIT4
      go_wp2_with fail
      refine (unhide HRP).mono ?_
      rintro e w6 ⟨rfl, hb6⟩
      have hb36 := hb35.trans (hb6.mono hb35.size)
      have HO6 := hide (HO.out.below hb36)
      have HINT := hide (intact_calls HO6.out HL.out ((HW4.out.below hb5).below hb6))
      rw [HL.out] at HINT
      have hb06 := hbw.trans (hb36.mono hbw.size)
      obtain ⟨ps, pe⟩ := printR L
      have q1 : (pe != pe) = false := by simp
      have q2 : (ps.toList != ps.toList) = false := by simp
      clear HRP hb4 hb5 hb6 hb35 hb36 HW4 HO HIT hbw
      go_wp2_with fail
      refine (unhide HINT).mono ?_
      rintro e w7 ⟨rfl, hb7⟩
      have HO7 := hide (HO6.out.below hb7)
      have hb07 := hb06.trans (hb7.mono hb06.size)
      clear HINT HO6 hb7 hb06 q1 q2
      by_cases hst : i < n1 ∧ i < n2 ∧ 0 < n
      · obtain ⟨s1, s2, s3⟩ := hst
        have j1 : (i : Int) < (n1 : Int) := by omega
        have j2 : (i : Int) < (n2 : Int) := by omega
        have j3 : (0 : Int) < (n : Int) := by omega
        obtain ⟨bx, ox, rfl, hx0, hx1, hx2⟩ := HX.out.at hb07 (i := i) (by rw [HN1.out]; exact s1)
        obtain ⟨bt, ot, rfl, y0, y1, y2, y3⟩ := HB2.out.at hb07 (i := i) (by rw [HN2.out]; exact s2)
        generalize xs.getD i 0 = r at *
        generalize l2.getD i .nul = t2 at *
        obtain ⟨tk, tt, tl, tp⟩ := t2
        simp only at y0 y1 y2 y3
        obtain ⟨k, hkn, hkr⟩ := tmod_place r n s3
        have HLM : Hid ((L ++ mks).length = n + 3) := by show _ = _; rw [List.length_append, HL.out]; rfl
        obtain ⟨hgB, _⟩ := HO7.out.base
        have hkn3 : k < n + 3 := by omega
        have hkI : (k : Int) < (n : Int) := by omega
        have hk0 : ¬ (k : Int) < 0 := by omega
        have HCC := hide (fun W => cut_calls tt 300 W)
        have hcs := cutB_le tt 300
        generalize cutB tt 300 = ct at *
        rcases hkr with ⟨hr1, hr⟩ | ⟨hr1, hr⟩
        · clear hr1 hx1 hx2
          go_wp2_with (first
            | (refine wpList_putTk rfl (.tmp 94) (.tmp 93) rfl (k := k) (t := ⟨tk, tt, tl, tp⟩) rfl rfl HO7.out HLM.out hkn3 ?_; intro w8 hw8 hO8 hg8; (have HO8 := hide hO8); (have hb08 := below_app (v := .slice (some ⟨g, 0, none⟩) n cg) hb07 hg8 hb07.size (Or.inr ⟨g, rfl, hgB⟩)); (have hc7 := hO8.cellTk (by rw [List.length_set]; exact HLM.out) hkn3 (j := 1) (by omega)); (have HG8 : Hid (((L ++ mks).set k ⟨tk, tt, tl, tp⟩).getD k .nul = ⟨tk, tt, tl, tp⟩) := set_get (by rw [HLM.out]; exact hkn3)); rw [HG8.out] at hc7; (have hc8 : w8.cell? ⟨g, k * 4 + 1, none⟩ = some (.string tt) := hc7); clear hc7; (have hf8 := (hO8.room (by rw [List.length_set]; exact HLM.out) hkn3 1 (by omega)).2); clear hw8 hO8 hg8 y0 y1 y2 y3 hx0))
          refine (unhide HCC w8).mono ?_
          rintro e w9 ⟨rfl, hw9⟩
          obtain rfl := hw9.symm
          clear hw9
          go_wp2
          go_roundw
          case rel =>
            refine ⟨i + 1, by omega, by omega, by go_num, ⟨L.set k ⟨tk, ct, tl, tp⟩, by rw [List.length_set]; exact HL.out, fun t ht => ?_, ?_⟩, hb08.setCell (p := ⟨g, k * 4 + 1, none⟩) hgB _⟩
            · rcases List.mem_or_eq_of_mem_set ht with ht | rfl
              · exact HLS.out t ht
              · show ct.size ≤ _; omega
            · have := HO8.out.putText (by rw [List.length_set]; exact HLM.out) hkn3 ct
              rw [HG8.out, List.set_set, List.set_append_left _ _ (by rw [HL.out]; exact hkn)] at this
              exact this
          case measure => simp [intOf]; omega
        · have hr := wrap_small hr hkn hn3
          clear hx1 hx2
          go_wp2_with (first
            | (refine wpList_putTk rfl (.tmp 94) (.tmp 93) rfl (k := k) (t := ⟨tk, tt, tl, tp⟩) rfl rfl HO7.out HLM.out hkn3 ?_; intro w8 hw8 hO8 hg8; (have HO8 := hide hO8); (have hb08 := below_app (v := .slice (some ⟨g, 0, none⟩) n cg) hb07 hg8 hb07.size (Or.inr ⟨g, rfl, hgB⟩)); (have hc7 := hO8.cellTk (by rw [List.length_set]; exact HLM.out) hkn3 (j := 1) (by omega)); (have HG8 : Hid (((L ++ mks).set k ⟨tk, tt, tl, tp⟩).getD k .nul = ⟨tk, tt, tl, tp⟩) := set_get (by rw [HLM.out]; exact hkn3)); rw [HG8.out] at hc7; (have hc8 : w8.cell? ⟨g, k * 4 + 1, none⟩ = some (.string tt) := hc7); clear hc7; (have hf8 := (hO8.room (by rw [List.length_set]; exact HLM.out) hkn3 1 (by omega)).2); clear hw8 hO8 hg8 y0 y1 y2 y3 hx0))
          refine (unhide HCC w8).mono ?_
          rintro e w9 ⟨rfl, hw9⟩
          obtain rfl := hw9.symm
          clear hw9
          go_wp2
          go_roundw
          case rel =>
            refine ⟨i + 1, by omega, by omega, by go_num, ⟨L.set k ⟨tk, ct, tl, tp⟩, by rw [List.length_set]; exact HL.out, fun t ht => ?_, ?_⟩, hb08.setCell (p := ⟨g, k * 4 + 1, none⟩) hgB _⟩
            · rcases List.mem_or_eq_of_mem_set ht with ht | rfl
              · exact HLS.out t ht
              · show ct.size ≤ _; omega
            · have := HO8.out.putText (by rw [List.length_set]; exact HLM.out) hkn3 ct
              rw [HG8.out, List.set_set, List.set_append_left _ _ (by rw [HL.out]; exact hkn)] at this
              exact this
          case measure => simp [intOf]; omega
      · have HNX : Hid (∃ L : List Tok, L.length = n ∧ (∀ t ∈ L, t.text.size ≤ 1048576) ∧ OwnT w7 w.heap.size (.slice (some ⟨g, 0, none⟩) (n + 3) cg) (L ++ mks)) := ⟨L, HL.out, HLS.out, HO7.out⟩
        have hcase : ¬ (i : Int) < (n1 : Int) ∨ ((i : Int) < (n1 : Int) ∧ ¬ (i : Int) < (n2 : Int)) ∨ ((i : Int) < (n1 : Int) ∧ (i : Int) < (n2 : Int) ∧ ¬ (0 : Int) < (n : Int)) := by omega
        clear hst
        rcases hcase with j1 | ⟨j1, j2⟩ | ⟨j1, j2, j3⟩
        all_goals (
          go_wp2
          go_roundw
          case rel => exact ⟨i + 1, by omega, by omega, by go_num, HNX, hb07⟩
          case measure => simp [intOf]; omega)
    · have hcase : ¬ (i : Int) ≤ (n1 : Int) ∨ ((i : Int) ≤ (n1 : Int) ∧ ¬ (i : Int) ≤ 20) := by omega
      clear hlt
      rcases hcase with j1 | ⟨j1, j2⟩
      all_goals (
        go_wp2
        try rw [Exit.noGoto_ret]
        go_ret
        exact ⟨rfl, hbw⟩)
end Go.Proofs.Ytcdilcjgmcamcab
