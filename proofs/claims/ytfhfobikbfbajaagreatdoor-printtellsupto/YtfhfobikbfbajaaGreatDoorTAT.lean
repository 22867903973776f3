/- The document's fits. -/
import Derived.Test.YtfhfobikbfbajaaGreatDoorTAS
import Derived.Test.YtfhfobikbfbajaaGreatDoorTAP
import Derived.Test.YtfhfobikbfbajaaGreatDoorTAO
namespace Go.Proofs.YtfhfobikbfbajaaGreatDoor
open Go.RowKit Go.Maps

theorem lit_eqW (s : ByteArray) (l : List UInt8) : (s.toList == l) = decide (s = ⟨l.toArray⟩) := by
  rw [← str_eq]
  congr 1
  rw [ByteArray.toList_eq]
/-- What a node must have, part by part. -/
def ftE (k n m : Int) (x : ByteArray) (q : Nat) : Bool := decide (1 ≤ k ∧ k ≤ 15) && (txF nameB ptW k x && (cntF k q && nuF k n m))
section
variable {k n m : Int} {x : ByteArray} {q : Nat}
theorem ftE_range (h : ¬ (1 ≤ k ∧ k ≤ 15)) : ftE k n m x q = false := by unfold ftE; rw [decide_eq_false h]; rfl
theorem ftE_nu (h : nuF k n m = false) : ftE k n m x q = false := by unfold ftE; rw [h, Bool.and_false, Bool.and_false, Bool.and_false]
theorem ftE_cnt (h : cntF k q = false) : ftE k n m x q = false := by unfold ftE; rw [h, Bool.false_and, Bool.and_false, Bool.and_false]
theorem ftE_tx (h : txF nameB ptW k x = false) : ftE k n m x q = false := by unfold ftE; rw [h, Bool.false_and, Bool.and_false]
theorem ftE_ok (hk : 1 ≤ k ∧ k ≤ 15) (h1 : cntF k q = true) (h2 : nuF k n m = true) : ftE k n m x q = txF nameB ptW k x := by unfold ftE; rw [decide_eq_true hk, h1, h2, Bool.true_and, Bool.and_true, Bool.and_true]
theorem nu_no (h7 : k ≠ 7) (h : ¬ (n = 0 ∧ m = 0)) : nuF k n m = false := by unfold nuF; rw [if_neg h7]; exact decide_eq_false h
theorem nu_yes (h7 : k ≠ 7) (h : n = 0 ∧ m = 0) : nuF k n m = true := by unfold nuF; rw [if_neg h7]; exact decide_eq_true h
theorem cnt_eq (h1 : k ≠ 1) (h4 : k ≠ 4) (hk : 2 ≤ k ∧ k ≤ 15) : cntF k q = decide ((q : Int) = kwC k) := by
  unfold cntF kwC
  rw [if_neg h1, if_pos hk, if_neg h4]
  apply decide_eq_decide.2
  constructor
  · rintro (h | ⟨h, _⟩)
    · rw [h]
    · exact absurd h h4
  · intro h; exact Or.inl (by omega)
theorem cnt_4 : cntF 4 q = decide (1 ≤ q) := by
  unfold cntF
  rw [if_neg (by decide)]
  apply decide_eq_decide.2
  have : argN (4 : Int).toNat = 1 := by decide
  rw [this]
  omega
theorem wdK_ne (h : 2 ≤ k ∧ k ≤ 15) : ((wdK k).toList == []) = false := by
  rcases kind_cases h with rfl | rfl | rfl | rfl | rfl | rfl | rfl | rfl | rfl | rfl | rfl | rfl | rfl | rfl <;> decide +kernel
theorem wdK_em (h : ¬ (2 ≤ k ∧ k ≤ 15)) : ((wdK k).toList == []) = true := by rw [wdK_lit h]; decide +kernel
theorem emp_eq (s : ByteArray) : (s.toList == []) = decide (s = noText) := by rw [lit_eqW]; rfl
end
theorem tmC_arr {w : World} {g : Nat} {k n m : Int} {x : ByteArray} {ag : List Tm} {v : Value} (h : Arr w g 52 (tmC ⟨k, x, n, m, ag⟩ v)) : w.cell? ⟨g, 0, none⟩ = some (.int .i64 k) ∧ w.cell? ⟨g, 1, none⟩ = some (.string x) ∧ w.cell? ⟨g, 2, none⟩ = some (.int .i64 n) ∧ w.cell? ⟨g, 3, none⟩ = some (.int .i64 m) ∧ w.cell? ⟨g, 4, none⟩ = some v :=
  ⟨h.cell 0, h.cell 1, h.cell 2, h.cell 3, h.cell 4⟩
theorem dparse_any (s : ByteArray) (hs : s.size ≤ 2000000) (w : World) : Calls Tryz.prog 67 #[.string s] w fun e w' => ∃ v x, e = .returned (.tuple #[v, .int .i64 x]) ∧ (∃ a n c, v = .slice a n c) ∧ decide (x < 0) = !(wrongB s) ∧ Below w.heap.size w w' := by
  refine (rparse_calls s hs w).mono ?_
  rintro e w' ⟨h, hb⟩
  rw [wrong_pl]
  rcases h with ⟨h1, h2⟩ | ⟨h1, v, h2, h3⟩
  · exact ⟨_, _, h2, ⟨_, _, _, rfl⟩, by rw [h1]; exact decide_eq_false (by omega), hb⟩
  · obtain ⟨a, c, e⟩ := h3.shape
    exact ⟨_, _, h2, ⟨_, _, _, e⟩, by rw [h1]; rfl, hb⟩
set_option maxRecDepth 100000 in
set_option maxHeartbeats 4000000 in
theorem dfits_calls (t : Tm) (u : Value) (w : World) (hu : ∃ a c, u = .slice a t.args.length c) (hs : t.text.size ≤ 2000000) (hq : t.args.length ≤ 9223372036854775807) : Calls Tryz.prog 109 #[.agg (tmC t u).toArray] w fun e w' => e = .returned (.bool (fit1 nameB ptW t)) ∧ Below w.heap.size w w' := by
  obtain ⟨k, x, n, m, ag⟩ := t
  obtain ⟨a, c, rfl⟩ := hu
  have hs : x.size ≤ 2000000 := hs
  have HW := hide (fun W => dwordOf_calls k W)
  have HK := hide (fun W => dkw_calls k W)
  have HP := hide (fun W => dparse_any x hs W)
  have HN : Hid (∀ W2, Calls Tryz.prog 65 #[.string x] W2 fun e w' => e = .returned (.bool (nameB x)) ∧ w' = W2) := hide (fun W2 => rname_calls x (by omega) (nameB x) (name_iff x) W2)
  obtain ⟨q, hqe⟩ : ∃ q, q = ag.length := ⟨_, rfl⟩
  have hfit : fit1 nameB ptW ⟨k, x, n, m, ag⟩ = ftE k n m x q := by rw [hqe]; rfl
  rw [hfit]
  show Calls Tryz.prog 109 #[.agg (tmC ⟨k, x, n, m, ag⟩ (.slice a ag.length c)).toArray] w _
  have hq : q ≤ 9223372036854775807 := by rw [hqe]; exact hq
  rw [← hqe]
  clear hfit hqe
  by_cases hk : 1 ≤ k ∧ k ≤ 15
  · by_cases h1 : k = 1
    · have h7 : k ≠ 7 := by omega
      by_cases hn : n = 0
      · by_cases hm : m = 0
        · have hnu := nu_yes (k := k) h7 ⟨hn, hm⟩
          by_cases hq0 : q = 0
          · have hnb : (n != 0) = false := by simpa using hn
            have hmb : (m != 0) = false := by simpa using hm
            have hkb : (k != 7) = true := by simpa using h7
            have h1b : (k == 1) = true := by simpa using h1
            have hqb : ((q : Int) == 0) = true := by simp [hq0]
            rw [show ftE k n m x q = true from by rw [ftE_ok (by omega) (by unfold cntF; rw [if_pos h1]; exact decide_eq_true hq0) hnu]; unfold txF; rw [if_pos h1]]
            clear hn hm h7 hnu hq0 h1 hk
            go_enter Tryz.func109, Tryz.ntmps109
            go_wp2_with (first
              | (refine wpList_boxJ rfl 52 (.tmp 0) rfl (cs := tmC ⟨k, x, n, m, ag⟩ (.slice a q c)) rfl ?_; intro w2 hA2 hb2 hs2; obtain ⟨c0, c1, c2, c3, c4⟩ := tmC_arr hA2; have HA2 := hide hA2; have HB2 := hide hb2; clear hA2 hb2 hs2)
              | fail)
            go_ret
            exact ⟨rfl, HB2.out⟩
          · have hnb : (n != 0) = false := by simpa using hn
            have hmb : (m != 0) = false := by simpa using hm
            have hkb : (k != 7) = true := by simpa using h7
            have h1b : (k == 1) = true := by simpa using h1
            have hqb : ((q : Int) == 0) = false := by simp; omega
            rw [show ftE k n m x q = false from ftE_cnt (by unfold cntF; rw [if_pos h1]; exact decide_eq_false hq0)]
            clear hn hm h7 hnu hq0 h1 hk
            go_enter Tryz.func109, Tryz.ntmps109
            go_wp2_with (first
              | (refine wpList_boxJ rfl 52 (.tmp 0) rfl (cs := tmC ⟨k, x, n, m, ag⟩ (.slice a q c)) rfl ?_; intro w2 hA2 hb2 hs2; obtain ⟨c0, c1, c2, c3, c4⟩ := tmC_arr hA2; have HA2 := hide hA2; have HB2 := hide hb2; clear hA2 hb2 hs2)
              | fail)
            go_ret
            exact ⟨rfl, HB2.out⟩
        · have hnb : (n != 0) = false := by simpa using hn
          have hmb : (m != 0) = true := by simpa using hm
          have hkb : (k != 7) = true := by simpa using h7
          rw [show ftE k n m x q = false from ftE_nu (nu_no h7 (fun e => hm e.2))]
          go_enter Tryz.func109, Tryz.ntmps109
          go_wp2_with (first
            | (refine wpList_boxJ rfl 52 (.tmp 0) rfl (cs := tmC ⟨k, x, n, m, ag⟩ (.slice a q c)) rfl ?_; intro w2 hA2 hb2 hs2; obtain ⟨c0, c1, c2, c3, c4⟩ := tmC_arr hA2; have HA2 := hide hA2; have HB2 := hide hb2; clear hA2 hb2 hs2)
            | fail)
          go_ret
          exact ⟨rfl, HB2.out⟩
      · have hnb : (n != 0) = true := by simpa using hn
        have hkb : (k != 7) = true := by simpa using h7
        rw [show ftE k n m x q = false from ftE_nu (nu_no h7 (fun e => hn e.1))]
        go_enter Tryz.func109, Tryz.ntmps109
        go_wp2_with (first
          | (refine wpList_boxJ rfl 52 (.tmp 0) rfl (cs := tmC ⟨k, x, n, m, ag⟩ (.slice a q c)) rfl ?_; intro w2 hA2 hb2 hs2; obtain ⟨c0, c1, c2, c3, c4⟩ := tmC_arr hA2; have HA2 := hide hA2; have HB2 := hide hb2; clear hA2 hb2 hs2)
          | fail)
        go_ret
        exact ⟨rfl, HB2.out⟩
    · by_cases h7 : k = 7
      · subst h7
        have hce := cnt_eq (k := 7) (q := q) (by omega) (by omega) (by omega)
        have hkc : kwC 7 = 1 := by unfold kwC; rw [if_pos (by omega), if_neg (by omega)]; decide
        rw [hkc] at HK hce
        have HCE := hide hce
        have H1 := hide h1
        clear hkc hce h1 hk
        go_enter Tryz.func109, Tryz.ntmps109
        go_wp2_with (first
          | (refine wpList_boxJ rfl 52 (.tmp 0) rfl (cs := tmC ⟨7, x, n, m, ag⟩ (.slice a q c)) rfl ?_; intro w2 hA2 hb2 hs2; obtain ⟨c0, c1, c2, c3, c4⟩ := tmC_arr hA2; have HA2 := hide hA2; have HB2 := hide hb2; clear hA2 hb2 hs2 c1 c2 c3 c4)
          | fail)
        have hwe := wdK_ne (k := 7) (by omega)
        refine (unhide HW _).mono ?_
        rintro e w3 ⟨rfl, hb3⟩
        obtain ⟨c0, c1, c2, c3, c4⟩ := tmC_arr (HA2.out.below hb3)
        have HB3 := hide (below_then HB2.out hb3)
        have HA3 := hide (HA2.out.below hb3)
        clear hb3
        go_wp2_with fail
        refine (unhide HK _).mono ?_
        rintro e w4 ⟨rfl, rfl⟩
        go_wp2_with fail
        refine (unhide HW _).mono ?_
        rintro e w5 ⟨rfl, hb5⟩
        obtain ⟨c0, c1, c2, c3, c4⟩ := tmC_arr (HA3.out.below hb5)
        have HB5 := hide (below_then HB3.out hb5)
        clear hb5
        have hce := HCE.out
        have h1 := H1.out
        have hk : True := trivial
        have hx := emp_eq x
        by_cases hqc : (q : Int) = 1
        · have hqb : ((q : Int) != 1) = false := by simpa using hqc
          by_cases hx0 : x = noText
          · by_cases hx1 : 0 ≤ n
            · by_cases hx2 : 0 ≤ m
              · by_cases hx3 : n ≤ 2147483647
                · by_cases hx4 : m ≤ 2147483647
                  · rw [decide_eq_true hx0] at hx
                    have HV : Hid (ftE 7 n m x q = true) := hide (by rw [ftE_ok (by omega) (by rw [hce]; exact decide_eq_true hqc) (by unfold nuF; rw [if_pos rfl]; exact decide_eq_true ⟨hx1, hx3, hx2, hx4⟩)]; unfold txF; rw [if_neg h1, if_neg (by omega), if_neg (by omega)]; exact decide_eq_true hx0)
                    clear hk hce hqc h1 hx0
                    go_wp2
                    go_ret
                    exact ⟨by rw [HV.out]; rfl, HB5.out⟩
                  · rw [decide_eq_true hx0] at hx
                    have hxd : decide (m ≤ 2147483647) = false := decide_eq_false hx4
                    have HV : Hid (ftE 7 n m x q = false) := hide (ftE_nu (by unfold nuF; rw [if_pos rfl]; exact decide_eq_false (fun e => hx4 e.2.2.2)))
                    clear hk hce hqc h1 hx0
                    go_wp2
                    go_ret
                    exact ⟨by rw [HV.out]; rfl, HB5.out⟩
                · rw [decide_eq_true hx0] at hx
                  have hxd : decide (n ≤ 2147483647) = false := decide_eq_false hx3
                  have HV : Hid (ftE 7 n m x q = false) := hide (ftE_nu (by unfold nuF; rw [if_pos rfl]; exact decide_eq_false (fun e => hx3 e.2.1)))
                  clear hk hce hqc h1 hx0
                  go_wp2
                  go_ret
                  exact ⟨by rw [HV.out]; rfl, HB5.out⟩
              · rw [decide_eq_true hx0] at hx
                have hxd : decide (0 ≤ m) = false := decide_eq_false hx2
                have HV : Hid (ftE 7 n m x q = false) := hide (ftE_nu (by unfold nuF; rw [if_pos rfl]; exact decide_eq_false (fun e => hx2 e.2.2.1)))
                clear hk hce hqc h1 hx0
                go_wp2
                go_ret
                exact ⟨by rw [HV.out]; rfl, HB5.out⟩
            · rw [decide_eq_true hx0] at hx
              have hxd : decide (0 ≤ n) = false := decide_eq_false hx1
              have HV : Hid (ftE 7 n m x q = false) := hide (ftE_nu (by unfold nuF; rw [if_pos rfl]; exact decide_eq_false (fun e => hx1 e.1)))
              clear hk hce hqc h1 hx0
              go_wp2
              go_ret
              exact ⟨by rw [HV.out]; rfl, HB5.out⟩
          · rw [decide_eq_false hx0] at hx
            have HV : Hid (ftE 7 n m x q = false) := hide (ftE_tx (by unfold txF; rw [if_neg h1, if_neg (by omega), if_neg (by omega)]; exact decide_eq_false hx0))
            clear hk hce hqc h1 hx0
            go_wp2
            go_ret
            exact ⟨by rw [HV.out]; rfl, HB5.out⟩
        · have hqb : ((q : Int) != 1) = true := by simpa using hqc
          have HV : Hid (ftE 7 n m x q = false) := hide (ftE_cnt (by rw [hce]; exact decide_eq_false hqc))
          clear hk hce hqc h1 hx
          go_wp2
          go_ret
          exact ⟨by rw [HV.out]; rfl, HB5.out⟩
      · have hk2 : 2 ≤ k ∧ k ≤ 15 := by omega
        by_cases hn : n = 0
        · by_cases hm : m = 0
          · have hnu := nu_yes (k := k) h7 ⟨hn, hm⟩
            obtain ⟨C, hC⟩ : ∃ C, C = kwC k := ⟨_, rfl⟩
            rw [← hC] at HK
            by_cases h4 : k = 4
            · have hC0 : C < 0 := by rw [hC]; unfold kwC; rw [if_pos hk2, if_pos h4]; decide
              have hC0d : decide (0 ≤ C) = false := decide_eq_false (by omega)
              have hC1 : ¬ 0 ≤ C := by omega
              have hce : cntF k q = decide (1 ≤ q) := by rw [h4]; exact cnt_4
              by_cases hqc : 1 ≤ q
              · by_cases h2 : k = 2
                · have hnb : (n != 0) = false := by simpa using hn
                  have hmb : (m != 0) = false := by simpa using hm
                  have hkb : (k != 7) = true := by simpa using h7
                  have h1b : (k == 1) = false := by simpa using h1
                  have hwe := wdK_ne (k := k) hk2
                  have hqb : ¬ (q : Int) < 1 := by omega
                  have hqd : decide ((q : Int) < 1) = false := decide_eq_false hqb
                  have h2b : (k == 2) = true := by simpa using h2
                  rw [show ftE k n m x q = ptW x from by rw [ftE_ok (by omega) (by rw [hce]; exact decide_eq_true hqc) hnu]; unfold txF; rw [if_neg (by omega), if_pos h2]]
                  clear h2 hn hm h7 h1 hk hk2 hC h4 hce hqc hnu
                  go_enter Tryz.func109, Tryz.ntmps109
                  go_wp2_with (first
                    | (refine wpList_boxJ rfl 52 (.tmp 0) rfl (cs := tmC ⟨k, x, n, m, ag⟩ (.slice a q c)) rfl ?_; intro w2 hA2 hb2 hs2; obtain ⟨c0, c1, c2, c3, c4⟩ := tmC_arr hA2; have HA2 := hide hA2; have HB2 := hide hb2; clear hA2 hb2 hs2)
                    | fail)
                  refine (unhide HW _).mono ?_
                  rintro e w3 ⟨rfl, hb3⟩
                  obtain ⟨c0, c1, c2, c3, c4⟩ := tmC_arr (HA2.out.below hb3)
                  have HB3 := hide (below_then HB2.out hb3)
                  have HA3 := hide (HA2.out.below hb3)
                  clear hb3
                  go_wp2_with fail
                  refine (unhide HK _).mono ?_
                  rintro e w4 ⟨rfl, rfl⟩
                  go_wp2_with fail
                  refine (unhide HW _).mono ?_
                  rintro e w5 ⟨rfl, hb5⟩
                  obtain ⟨c0, c1, c2, c3, c4⟩ := tmC_arr (HA3.out.below hb5)
                  have HB5 := hide (below_then HB3.out hb5)
                  clear hb5
                  go_wp2_with fail
                  refine (unhide HP _).mono ?_
                  rintro e w6 ⟨pv, y, rfl, ⟨pa, pn, pc, rfl⟩, hy, hb6⟩
                  have HB6 := hide (below_then HB5.out hb6)
                  have HY := hide hy
                  clear hb6 hy
                  go_wp2
                  go_ret
                  exact ⟨by rw [show ptW x = decide (y < 0) from HY.out.symm]; rfl, HB6.out⟩
                · by_cases h3 : k = 3 ∨ k = 13
                  · by_cases h3a : k = 3
                    · have hnb : (n != 0) = false := by simpa using hn
                      have hmb : (m != 0) = false := by simpa using hm
                      have hkb : (k != 7) = true := by simpa using h7
                      have h1b : (k == 1) = false := by simpa using h1
                      have hwe := wdK_ne (k := k) hk2
                      have hqb : ¬ (q : Int) < 1 := by omega
                      have hqd : decide ((q : Int) < 1) = false := decide_eq_false hqb
                      have h2b : (k == 2) = false := by simpa using h2
                      have h3b : (k == 3) = true := by simpa using h3a
                      rw [show ftE k n m x q = nameB x from by rw [ftE_ok (by omega) (by rw [hce]; exact decide_eq_true hqc) hnu]; unfold txF; rw [if_neg (by omega), if_neg h2, if_pos h3]]
                      clear h3a h2 h3 hn hm h7 h1 hk hk2 hC h4 hce hqc hnu
                      go_enter Tryz.func109, Tryz.ntmps109
                      go_wp2_with (first
                        | (refine wpList_boxJ rfl 52 (.tmp 0) rfl (cs := tmC ⟨k, x, n, m, ag⟩ (.slice a q c)) rfl ?_; intro w2 hA2 hb2 hs2; obtain ⟨c0, c1, c2, c3, c4⟩ := tmC_arr hA2; have HA2 := hide hA2; have HB2 := hide hb2; clear hA2 hb2 hs2)
                        | fail)
                      refine (unhide HW _).mono ?_
                      rintro e w3 ⟨rfl, hb3⟩
                      obtain ⟨c0, c1, c2, c3, c4⟩ := tmC_arr (HA2.out.below hb3)
                      have HB3 := hide (below_then HB2.out hb3)
                      have HA3 := hide (HA2.out.below hb3)
                      clear hb3
                      go_wp2_with fail
                      refine (unhide HK _).mono ?_
                      rintro e w4 ⟨rfl, rfl⟩
                      go_wp2_with fail
                      refine (unhide HW _).mono ?_
                      rintro e w5 ⟨rfl, hb5⟩
                      obtain ⟨c0, c1, c2, c3, c4⟩ := tmC_arr (HA3.out.below hb5)
                      have HB5 := hide (below_then HB3.out hb5)
                      clear hb5
                      go_wp2_with fail
                      refine (unhide HN _).mono ?_
                      rintro e w6 ⟨rfl, rfl⟩
                      go_wp2
                      go_ret
                      exact ⟨rfl, HB5.out⟩
                    · have hnb : (n != 0) = false := by simpa using hn
                      have hmb : (m != 0) = false := by simpa using hm
                      have hkb : (k != 7) = true := by simpa using h7
                      have h1b : (k == 1) = false := by simpa using h1
                      have hwe := wdK_ne (k := k) hk2
                      have hqb : ¬ (q : Int) < 1 := by omega
                      have hqd : decide ((q : Int) < 1) = false := decide_eq_false hqb
                      have h2b : (k == 2) = false := by simpa using h2
                      have h3b : (k == 3) = false := by simpa using h3a
                      have h13b : (k == 13) = true := by simp; omega
                      rw [show ftE k n m x q = nameB x from by rw [ftE_ok (by omega) (by rw [hce]; exact decide_eq_true hqc) hnu]; unfold txF; rw [if_neg (by omega), if_neg h2, if_pos h3]]
                      clear h3a h2 h3 hn hm h7 h1 hk hk2 hC h4 hce hqc hnu
                      go_enter Tryz.func109, Tryz.ntmps109
                      go_wp2_with (first
                        | (refine wpList_boxJ rfl 52 (.tmp 0) rfl (cs := tmC ⟨k, x, n, m, ag⟩ (.slice a q c)) rfl ?_; intro w2 hA2 hb2 hs2; obtain ⟨c0, c1, c2, c3, c4⟩ := tmC_arr hA2; have HA2 := hide hA2; have HB2 := hide hb2; clear hA2 hb2 hs2)
                        | fail)
                      refine (unhide HW _).mono ?_
                      rintro e w3 ⟨rfl, hb3⟩
                      obtain ⟨c0, c1, c2, c3, c4⟩ := tmC_arr (HA2.out.below hb3)
                      have HB3 := hide (below_then HB2.out hb3)
                      have HA3 := hide (HA2.out.below hb3)
                      clear hb3
                      go_wp2_with fail
                      refine (unhide HK _).mono ?_
                      rintro e w4 ⟨rfl, rfl⟩
                      go_wp2_with fail
                      refine (unhide HW _).mono ?_
                      rintro e w5 ⟨rfl, hb5⟩
                      obtain ⟨c0, c1, c2, c3, c4⟩ := tmC_arr (HA3.out.below hb5)
                      have HB5 := hide (below_then HB3.out hb5)
                      clear hb5
                      go_wp2_with fail
                      refine (unhide HN _).mono ?_
                      rintro e w6 ⟨rfl, rfl⟩
                      go_wp2
                      go_ret
                      exact ⟨rfl, HB5.out⟩
                  · have hx := emp_eq x
                    by_cases hxe : x = noText
                    · have hnb : (n != 0) = false := by simpa using hn
                      have hmb : (m != 0) = false := by simpa using hm
                      have hkb : (k != 7) = true := by simpa using h7
                      have h1b : (k == 1) = false := by simpa using h1
                      have hwe := wdK_ne (k := k) hk2
                      have hqb : ¬ (q : Int) < 1 := by omega
                      have hqd : decide ((q : Int) < 1) = false := decide_eq_false hqb
                      have h2b : (k == 2) = false := by simpa using h2
                      have h3b : (k == 3) = false := by simp; omega
                      have h13b : (k == 13) = false := by simp; omega
                      have h77b : (k == 7) = false := by simpa using h7
                      rw [decide_eq_true hxe] at hx
                      rw [show ftE k n m x q = true from by rw [ftE_ok (by omega) (by rw [hce]; exact decide_eq_true hqc) hnu]; unfold txF; rw [if_neg (by omega), if_neg h2, if_neg h3]; exact decide_eq_true hxe]
                      clear hxe h2 h3 hn hm h7 h1 hk hk2 hC h4 hce hqc hnu
                      go_enter Tryz.func109, Tryz.ntmps109
                      go_wp2_with (first
                        | (refine wpList_boxJ rfl 52 (.tmp 0) rfl (cs := tmC ⟨k, x, n, m, ag⟩ (.slice a q c)) rfl ?_; intro w2 hA2 hb2 hs2; obtain ⟨c0, c1, c2, c3, c4⟩ := tmC_arr hA2; have HA2 := hide hA2; have HB2 := hide hb2; clear hA2 hb2 hs2)
                        | fail)
                      refine (unhide HW _).mono ?_
                      rintro e w3 ⟨rfl, hb3⟩
                      obtain ⟨c0, c1, c2, c3, c4⟩ := tmC_arr (HA2.out.below hb3)
                      have HB3 := hide (below_then HB2.out hb3)
                      have HA3 := hide (HA2.out.below hb3)
                      clear hb3
                      go_wp2_with fail
                      refine (unhide HK _).mono ?_
                      rintro e w4 ⟨rfl, rfl⟩
                      go_wp2_with fail
                      refine (unhide HW _).mono ?_
                      rintro e w5 ⟨rfl, hb5⟩
                      obtain ⟨c0, c1, c2, c3, c4⟩ := tmC_arr (HA3.out.below hb5)
                      have HB5 := hide (below_then HB3.out hb5)
                      clear hb5
                      go_wp2
                      go_ret
                      exact ⟨rfl, HB5.out⟩
                    · have hnb : (n != 0) = false := by simpa using hn
                      have hmb : (m != 0) = false := by simpa using hm
                      have hkb : (k != 7) = true := by simpa using h7
                      have h1b : (k == 1) = false := by simpa using h1
                      have hwe := wdK_ne (k := k) hk2
                      have hqb : ¬ (q : Int) < 1 := by omega
                      have hqd : decide ((q : Int) < 1) = false := decide_eq_false hqb
                      have h2b : (k == 2) = false := by simpa using h2
                      have h3b : (k == 3) = false := by simp; omega
                      have h13b : (k == 13) = false := by simp; omega
                      have h77b : (k == 7) = false := by simpa using h7
                      rw [decide_eq_false hxe] at hx
                      rw [show ftE k n m x q = false from by rw [ftE_ok (by omega) (by rw [hce]; exact decide_eq_true hqc) hnu]; unfold txF; rw [if_neg (by omega), if_neg h2, if_neg h3]; exact decide_eq_false hxe]
                      clear hxe h2 h3 hn hm h7 h1 hk hk2 hC h4 hce hqc hnu
                      go_enter Tryz.func109, Tryz.ntmps109
                      go_wp2_with (first
                        | (refine wpList_boxJ rfl 52 (.tmp 0) rfl (cs := tmC ⟨k, x, n, m, ag⟩ (.slice a q c)) rfl ?_; intro w2 hA2 hb2 hs2; obtain ⟨c0, c1, c2, c3, c4⟩ := tmC_arr hA2; have HA2 := hide hA2; have HB2 := hide hb2; clear hA2 hb2 hs2)
                        | fail)
                      refine (unhide HW _).mono ?_
                      rintro e w3 ⟨rfl, hb3⟩
                      obtain ⟨c0, c1, c2, c3, c4⟩ := tmC_arr (HA2.out.below hb3)
                      have HB3 := hide (below_then HB2.out hb3)
                      have HA3 := hide (HA2.out.below hb3)
                      clear hb3
                      go_wp2_with fail
                      refine (unhide HK _).mono ?_
                      rintro e w4 ⟨rfl, rfl⟩
                      go_wp2_with fail
                      refine (unhide HW _).mono ?_
                      rintro e w5 ⟨rfl, hb5⟩
                      obtain ⟨c0, c1, c2, c3, c4⟩ := tmC_arr (HA3.out.below hb5)
                      have HB5 := hide (below_then HB3.out hb5)
                      clear hb5
                      go_wp2
                      go_ret
                      exact ⟨rfl, HB5.out⟩
              · have hnb : (n != 0) = false := by simpa using hn
                have hmb : (m != 0) = false := by simpa using hm
                have hkb : (k != 7) = true := by simpa using h7
                have h1b : (k == 1) = false := by simpa using h1
                have hwe := wdK_ne (k := k) hk2
                have hqb : (q : Int) < 1 := by omega
                rw [show ftE k n m x q = false from ftE_cnt (by rw [hce]; exact decide_eq_false hqc)]
                clear hn hm h7 h1 hk hk2 hC h4 hce hqc hnu
                go_enter Tryz.func109, Tryz.ntmps109
                go_wp2_with (first
                  | (refine wpList_boxJ rfl 52 (.tmp 0) rfl (cs := tmC ⟨k, x, n, m, ag⟩ (.slice a q c)) rfl ?_; intro w2 hA2 hb2 hs2; obtain ⟨c0, c1, c2, c3, c4⟩ := tmC_arr hA2; have HA2 := hide hA2; have HB2 := hide hb2; clear hA2 hb2 hs2)
                  | fail)
                refine (unhide HW _).mono ?_
                rintro e w3 ⟨rfl, hb3⟩
                obtain ⟨c0, c1, c2, c3, c4⟩ := tmC_arr (HA2.out.below hb3)
                have HB3 := hide (below_then HB2.out hb3)
                have HA3 := hide (HA2.out.below hb3)
                clear hb3
                go_wp2_with fail
                refine (unhide HK _).mono ?_
                rintro e w4 ⟨rfl, rfl⟩
                go_wp2_with fail
                refine (unhide HW _).mono ?_
                rintro e w5 ⟨rfl, hb5⟩
                obtain ⟨c0, c1, c2, c3, c4⟩ := tmC_arr (HA3.out.below hb5)
                have HB5 := hide (below_then HB3.out hb5)
                clear hb5
                go_wp2
                go_ret
                exact ⟨rfl, HB5.out⟩
            · have hce := cnt_eq (q := q) h1 h4 hk2
              rw [← hC] at hce
              have hC0 : 0 ≤ C := by rw [hC]; unfold kwC; rw [if_pos hk2, if_neg h4]; omega
              have hC0d : decide (C < 0) = false := decide_eq_false (by omega)
              have hC1 : ¬ C < 0 := by omega
              by_cases hqc : (q : Int) = C
              · by_cases h2 : k = 2
                · have hnb : (n != 0) = false := by simpa using hn
                  have hmb : (m != 0) = false := by simpa using hm
                  have hkb : (k != 7) = true := by simpa using h7
                  have h1b : (k == 1) = false := by simpa using h1
                  have hwe := wdK_ne (k := k) hk2
                  have hqb : ((q : Int) != C) = false := by simpa using hqc
                  have h2b : (k == 2) = true := by simpa using h2
                  rw [show ftE k n m x q = ptW x from by rw [ftE_ok (by omega) (by rw [hce]; exact decide_eq_true hqc) hnu]; unfold txF; rw [if_neg (by omega), if_pos h2]]
                  clear h2 hn hm h7 h1 hk hk2 hC h4 hce hqc hnu
                  go_enter Tryz.func109, Tryz.ntmps109
                  go_wp2_with (first
                    | (refine wpList_boxJ rfl 52 (.tmp 0) rfl (cs := tmC ⟨k, x, n, m, ag⟩ (.slice a q c)) rfl ?_; intro w2 hA2 hb2 hs2; obtain ⟨c0, c1, c2, c3, c4⟩ := tmC_arr hA2; have HA2 := hide hA2; have HB2 := hide hb2; clear hA2 hb2 hs2)
                    | fail)
                  refine (unhide HW _).mono ?_
                  rintro e w3 ⟨rfl, hb3⟩
                  obtain ⟨c0, c1, c2, c3, c4⟩ := tmC_arr (HA2.out.below hb3)
                  have HB3 := hide (below_then HB2.out hb3)
                  have HA3 := hide (HA2.out.below hb3)
                  clear hb3
                  go_wp2_with fail
                  refine (unhide HK _).mono ?_
                  rintro e w4 ⟨rfl, rfl⟩
                  go_wp2_with fail
                  refine (unhide HW _).mono ?_
                  rintro e w5 ⟨rfl, hb5⟩
                  obtain ⟨c0, c1, c2, c3, c4⟩ := tmC_arr (HA3.out.below hb5)
                  have HB5 := hide (below_then HB3.out hb5)
                  clear hb5
                  go_wp2_with fail
                  refine (unhide HP _).mono ?_
                  rintro e w6 ⟨pv, y, rfl, ⟨pa, pn, pc, rfl⟩, hy, hb6⟩
                  have HB6 := hide (below_then HB5.out hb6)
                  have HY := hide hy
                  clear hb6 hy
                  go_wp2
                  go_ret
                  exact ⟨by rw [show ptW x = decide (y < 0) from HY.out.symm]; rfl, HB6.out⟩
                · by_cases h3 : k = 3 ∨ k = 13
                  · by_cases h3a : k = 3
                    · have hnb : (n != 0) = false := by simpa using hn
                      have hmb : (m != 0) = false := by simpa using hm
                      have hkb : (k != 7) = true := by simpa using h7
                      have h1b : (k == 1) = false := by simpa using h1
                      have hwe := wdK_ne (k := k) hk2
                      have hqb : ((q : Int) != C) = false := by simpa using hqc
                      have h2b : (k == 2) = false := by simpa using h2
                      have h3b : (k == 3) = true := by simpa using h3a
                      rw [show ftE k n m x q = nameB x from by rw [ftE_ok (by omega) (by rw [hce]; exact decide_eq_true hqc) hnu]; unfold txF; rw [if_neg (by omega), if_neg h2, if_pos h3]]
                      clear h3a h2 h3 hn hm h7 h1 hk hk2 hC h4 hce hqc hnu
                      go_enter Tryz.func109, Tryz.ntmps109
                      go_wp2_with (first
                        | (refine wpList_boxJ rfl 52 (.tmp 0) rfl (cs := tmC ⟨k, x, n, m, ag⟩ (.slice a q c)) rfl ?_; intro w2 hA2 hb2 hs2; obtain ⟨c0, c1, c2, c3, c4⟩ := tmC_arr hA2; have HA2 := hide hA2; have HB2 := hide hb2; clear hA2 hb2 hs2)
                        | fail)
                      refine (unhide HW _).mono ?_
                      rintro e w3 ⟨rfl, hb3⟩
                      obtain ⟨c0, c1, c2, c3, c4⟩ := tmC_arr (HA2.out.below hb3)
                      have HB3 := hide (below_then HB2.out hb3)
                      have HA3 := hide (HA2.out.below hb3)
                      clear hb3
                      go_wp2_with fail
                      refine (unhide HK _).mono ?_
                      rintro e w4 ⟨rfl, rfl⟩
                      go_wp2_with fail
                      refine (unhide HW _).mono ?_
                      rintro e w5 ⟨rfl, hb5⟩
                      obtain ⟨c0, c1, c2, c3, c4⟩ := tmC_arr (HA3.out.below hb5)
                      have HB5 := hide (below_then HB3.out hb5)
                      clear hb5
                      go_wp2_with fail
                      refine (unhide HN _).mono ?_
                      rintro e w6 ⟨rfl, rfl⟩
                      go_wp2
                      go_ret
                      exact ⟨rfl, HB5.out⟩
                    · have hnb : (n != 0) = false := by simpa using hn
                      have hmb : (m != 0) = false := by simpa using hm
                      have hkb : (k != 7) = true := by simpa using h7
                      have h1b : (k == 1) = false := by simpa using h1
                      have hwe := wdK_ne (k := k) hk2
                      have hqb : ((q : Int) != C) = false := by simpa using hqc
                      have h2b : (k == 2) = false := by simpa using h2
                      have h3b : (k == 3) = false := by simpa using h3a
                      have h13b : (k == 13) = true := by simp; omega
                      rw [show ftE k n m x q = nameB x from by rw [ftE_ok (by omega) (by rw [hce]; exact decide_eq_true hqc) hnu]; unfold txF; rw [if_neg (by omega), if_neg h2, if_pos h3]]
                      clear h3a h2 h3 hn hm h7 h1 hk hk2 hC h4 hce hqc hnu
                      go_enter Tryz.func109, Tryz.ntmps109
                      go_wp2_with (first
                        | (refine wpList_boxJ rfl 52 (.tmp 0) rfl (cs := tmC ⟨k, x, n, m, ag⟩ (.slice a q c)) rfl ?_; intro w2 hA2 hb2 hs2; obtain ⟨c0, c1, c2, c3, c4⟩ := tmC_arr hA2; have HA2 := hide hA2; have HB2 := hide hb2; clear hA2 hb2 hs2)
                        | fail)
                      refine (unhide HW _).mono ?_
                      rintro e w3 ⟨rfl, hb3⟩
                      obtain ⟨c0, c1, c2, c3, c4⟩ := tmC_arr (HA2.out.below hb3)
                      have HB3 := hide (below_then HB2.out hb3)
                      have HA3 := hide (HA2.out.below hb3)
                      clear hb3
                      go_wp2_with fail
                      refine (unhide HK _).mono ?_
                      rintro e w4 ⟨rfl, rfl⟩
                      go_wp2_with fail
                      refine (unhide HW _).mono ?_
                      rintro e w5 ⟨rfl, hb5⟩
                      obtain ⟨c0, c1, c2, c3, c4⟩ := tmC_arr (HA3.out.below hb5)
                      have HB5 := hide (below_then HB3.out hb5)
                      clear hb5
                      go_wp2_with fail
                      refine (unhide HN _).mono ?_
                      rintro e w6 ⟨rfl, rfl⟩
                      go_wp2
                      go_ret
                      exact ⟨rfl, HB5.out⟩
                  · have hx := emp_eq x
                    by_cases hxe : x = noText
                    · have hnb : (n != 0) = false := by simpa using hn
                      have hmb : (m != 0) = false := by simpa using hm
                      have hkb : (k != 7) = true := by simpa using h7
                      have h1b : (k == 1) = false := by simpa using h1
                      have hwe := wdK_ne (k := k) hk2
                      have hqb : ((q : Int) != C) = false := by simpa using hqc
                      have h2b : (k == 2) = false := by simpa using h2
                      have h3b : (k == 3) = false := by simp; omega
                      have h13b : (k == 13) = false := by simp; omega
                      have h77b : (k == 7) = false := by simpa using h7
                      rw [decide_eq_true hxe] at hx
                      rw [show ftE k n m x q = true from by rw [ftE_ok (by omega) (by rw [hce]; exact decide_eq_true hqc) hnu]; unfold txF; rw [if_neg (by omega), if_neg h2, if_neg h3]; exact decide_eq_true hxe]
                      clear hxe h2 h3 hn hm h7 h1 hk hk2 hC h4 hce hqc hnu
                      go_enter Tryz.func109, Tryz.ntmps109
                      go_wp2_with (first
                        | (refine wpList_boxJ rfl 52 (.tmp 0) rfl (cs := tmC ⟨k, x, n, m, ag⟩ (.slice a q c)) rfl ?_; intro w2 hA2 hb2 hs2; obtain ⟨c0, c1, c2, c3, c4⟩ := tmC_arr hA2; have HA2 := hide hA2; have HB2 := hide hb2; clear hA2 hb2 hs2)
                        | fail)
                      refine (unhide HW _).mono ?_
                      rintro e w3 ⟨rfl, hb3⟩
                      obtain ⟨c0, c1, c2, c3, c4⟩ := tmC_arr (HA2.out.below hb3)
                      have HB3 := hide (below_then HB2.out hb3)
                      have HA3 := hide (HA2.out.below hb3)
                      clear hb3
                      go_wp2_with fail
                      refine (unhide HK _).mono ?_
                      rintro e w4 ⟨rfl, rfl⟩
                      go_wp2_with fail
                      refine (unhide HW _).mono ?_
                      rintro e w5 ⟨rfl, hb5⟩
                      obtain ⟨c0, c1, c2, c3, c4⟩ := tmC_arr (HA3.out.below hb5)
                      have HB5 := hide (below_then HB3.out hb5)
                      clear hb5
                      go_wp2
                      go_ret
                      exact ⟨rfl, HB5.out⟩
                    · have hnb : (n != 0) = false := by simpa using hn
                      have hmb : (m != 0) = false := by simpa using hm
                      have hkb : (k != 7) = true := by simpa using h7
                      have h1b : (k == 1) = false := by simpa using h1
                      have hwe := wdK_ne (k := k) hk2
                      have hqb : ((q : Int) != C) = false := by simpa using hqc
                      have h2b : (k == 2) = false := by simpa using h2
                      have h3b : (k == 3) = false := by simp; omega
                      have h13b : (k == 13) = false := by simp; omega
                      have h77b : (k == 7) = false := by simpa using h7
                      rw [decide_eq_false hxe] at hx
                      rw [show ftE k n m x q = false from by rw [ftE_ok (by omega) (by rw [hce]; exact decide_eq_true hqc) hnu]; unfold txF; rw [if_neg (by omega), if_neg h2, if_neg h3]; exact decide_eq_false hxe]
                      clear hxe h2 h3 hn hm h7 h1 hk hk2 hC h4 hce hqc hnu
                      go_enter Tryz.func109, Tryz.ntmps109
                      go_wp2_with (first
                        | (refine wpList_boxJ rfl 52 (.tmp 0) rfl (cs := tmC ⟨k, x, n, m, ag⟩ (.slice a q c)) rfl ?_; intro w2 hA2 hb2 hs2; obtain ⟨c0, c1, c2, c3, c4⟩ := tmC_arr hA2; have HA2 := hide hA2; have HB2 := hide hb2; clear hA2 hb2 hs2)
                        | fail)
                      refine (unhide HW _).mono ?_
                      rintro e w3 ⟨rfl, hb3⟩
                      obtain ⟨c0, c1, c2, c3, c4⟩ := tmC_arr (HA2.out.below hb3)
                      have HB3 := hide (below_then HB2.out hb3)
                      have HA3 := hide (HA2.out.below hb3)
                      clear hb3
                      go_wp2_with fail
                      refine (unhide HK _).mono ?_
                      rintro e w4 ⟨rfl, rfl⟩
                      go_wp2_with fail
                      refine (unhide HW _).mono ?_
                      rintro e w5 ⟨rfl, hb5⟩
                      obtain ⟨c0, c1, c2, c3, c4⟩ := tmC_arr (HA3.out.below hb5)
                      have HB5 := hide (below_then HB3.out hb5)
                      clear hb5
                      go_wp2
                      go_ret
                      exact ⟨rfl, HB5.out⟩
              · have hnb : (n != 0) = false := by simpa using hn
                have hmb : (m != 0) = false := by simpa using hm
                have hkb : (k != 7) = true := by simpa using h7
                have h1b : (k == 1) = false := by simpa using h1
                have hwe := wdK_ne (k := k) hk2
                have hqb : ((q : Int) != C) = true := by simpa using hqc
                rw [show ftE k n m x q = false from ftE_cnt (by rw [hce]; exact decide_eq_false hqc)]
                clear hn hm h7 h1 hk hk2 hC h4 hce hqc hnu
                go_enter Tryz.func109, Tryz.ntmps109
                go_wp2_with (first
                  | (refine wpList_boxJ rfl 52 (.tmp 0) rfl (cs := tmC ⟨k, x, n, m, ag⟩ (.slice a q c)) rfl ?_; intro w2 hA2 hb2 hs2; obtain ⟨c0, c1, c2, c3, c4⟩ := tmC_arr hA2; have HA2 := hide hA2; have HB2 := hide hb2; clear hA2 hb2 hs2)
                  | fail)
                refine (unhide HW _).mono ?_
                rintro e w3 ⟨rfl, hb3⟩
                obtain ⟨c0, c1, c2, c3, c4⟩ := tmC_arr (HA2.out.below hb3)
                have HB3 := hide (below_then HB2.out hb3)
                have HA3 := hide (HA2.out.below hb3)
                clear hb3
                go_wp2_with fail
                refine (unhide HK _).mono ?_
                rintro e w4 ⟨rfl, rfl⟩
                go_wp2_with fail
                refine (unhide HW _).mono ?_
                rintro e w5 ⟨rfl, hb5⟩
                obtain ⟨c0, c1, c2, c3, c4⟩ := tmC_arr (HA3.out.below hb5)
                have HB5 := hide (below_then HB3.out hb5)
                clear hb5
                go_wp2
                go_ret
                exact ⟨rfl, HB5.out⟩
          · have hnb : (n != 0) = false := by simpa using hn
            have hmb : (m != 0) = true := by simpa using hm
            have hkb : (k != 7) = true := by simpa using h7
            rw [show ftE k n m x q = false from ftE_nu (nu_no h7 (fun e => hm e.2))]
            go_enter Tryz.func109, Tryz.ntmps109
            go_wp2_with (first
              | (refine wpList_boxJ rfl 52 (.tmp 0) rfl (cs := tmC ⟨k, x, n, m, ag⟩ (.slice a q c)) rfl ?_; intro w2 hA2 hb2 hs2; obtain ⟨c0, c1, c2, c3, c4⟩ := tmC_arr hA2; have HA2 := hide hA2; have HB2 := hide hb2; clear hA2 hb2 hs2)
              | fail)
            go_ret
            exact ⟨rfl, HB2.out⟩
        · have hnb : (n != 0) = true := by simpa using hn
          have hkb : (k != 7) = true := by simpa using h7
          rw [show ftE k n m x q = false from ftE_nu (nu_no h7 (fun e => hn e.1))]
          go_enter Tryz.func109, Tryz.ntmps109
          go_wp2_with (first
            | (refine wpList_boxJ rfl 52 (.tmp 0) rfl (cs := tmC ⟨k, x, n, m, ag⟩ (.slice a q c)) rfl ?_; intro w2 hA2 hb2 hs2; obtain ⟨c0, c1, c2, c3, c4⟩ := tmC_arr hA2; have HA2 := hide hA2; have HB2 := hide hb2; clear hA2 hb2 hs2)
            | fail)
          go_ret
          exact ⟨rfl, HB2.out⟩
  · have h7 : k ≠ 7 := by omega
    have h1 : k ≠ 1 := by omega
    by_cases hn : n = 0
    · by_cases hm : m = 0
      · have hnb : (n != 0) = false := by simpa using hn
        have hmb : (m != 0) = false := by simpa using hm
        have hkb : (k != 7) = true := by simpa using h7
        have h1b : (k == 1) = false := by simpa using h1
        have hwe := wdK_em (k := k) (fun e => hk (by omega))
        have hkc : kwC k = 0 := if_neg (fun e => hk (by omega))
        rw [hkc] at HK
        rw [show ftE k n m x q = false from ftE_range hk]
        clear hn hm h7 h1 hk hkc
        go_enter Tryz.func109, Tryz.ntmps109
        go_wp2_with (first
          | (refine wpList_boxJ rfl 52 (.tmp 0) rfl (cs := tmC ⟨k, x, n, m, ag⟩ (.slice a q c)) rfl ?_; intro w2 hA2 hb2 hs2; obtain ⟨c0, c1, c2, c3, c4⟩ := tmC_arr hA2; have HA2 := hide hA2; have HB2 := hide hb2; clear hA2 hb2 hs2)
          | fail)
        refine (unhide HW _).mono ?_
        rintro e w3 ⟨rfl, hb3⟩
        obtain ⟨c0, c1, c2, c3, c4⟩ := tmC_arr (HA2.out.below hb3)
        have HB3 := hide (below_then HB2.out hb3)
        have HA3 := hide (HA2.out.below hb3)
        clear hb3
        go_wp2_with fail
        refine (unhide HK _).mono ?_
        rintro e w4 ⟨rfl, rfl⟩
        go_wp2_with fail
        refine (unhide HW _).mono ?_
        rintro e w5 ⟨rfl, hb5⟩
        obtain ⟨c0, c1, c2, c3, c4⟩ := tmC_arr (HA3.out.below hb5)
        have HB5 := hide (below_then HB3.out hb5)
        clear hb5
        go_wp2
        go_ret
        exact ⟨rfl, HB5.out⟩
      · have hnb : (n != 0) = false := by simpa using hn
        have hmb : (m != 0) = true := by simpa using hm
        have hkb : (k != 7) = true := by simpa using h7
        rw [show ftE k n m x q = false from ftE_nu (nu_no h7 (fun e => hm e.2))]
        go_enter Tryz.func109, Tryz.ntmps109
        go_wp2_with (first
          | (refine wpList_boxJ rfl 52 (.tmp 0) rfl (cs := tmC ⟨k, x, n, m, ag⟩ (.slice a q c)) rfl ?_; intro w2 hA2 hb2 hs2; obtain ⟨c0, c1, c2, c3, c4⟩ := tmC_arr hA2; have HA2 := hide hA2; have HB2 := hide hb2; clear hA2 hb2 hs2)
          | fail)
        go_ret
        exact ⟨rfl, HB2.out⟩
    · have hnb : (n != 0) = true := by simpa using hn
      have hkb : (k != 7) = true := by simpa using h7
      rw [show ftE k n m x q = false from ftE_nu (nu_no h7 (fun e => hn e.1))]
      go_enter Tryz.func109, Tryz.ntmps109
      go_wp2_with (first
        | (refine wpList_boxJ rfl 52 (.tmp 0) rfl (cs := tmC ⟨k, x, n, m, ag⟩ (.slice a q c)) rfl ?_; intro w2 hA2 hb2 hs2; obtain ⟨c0, c1, c2, c3, c4⟩ := tmC_arr hA2; have HA2 := hide hA2; have HB2 := hide hb2; clear hA2 hb2 hs2)
        | fail)
      go_ret
      exact ⟨rfl, HB2.out⟩
end Go.Proofs.YtfhfobikbfbajaaGreatDoor
