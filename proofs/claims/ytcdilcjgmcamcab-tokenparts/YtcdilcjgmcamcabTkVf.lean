/- TokenParts: the walk. -/
import Derived.Test.YtcdilcjgmcamcabTkVe
import Derived.Test.YtcdilcjgmcamcabTkMk
import Derived.Deep.DeepCutAuto
namespace Go.Proofs.Ytcdilcjgmcamcab
open Go.RowKit Go.Maps Classical

theorem prefix_bs (x : List UInt8) : (bs (x ++ [10])).extract 0 x.length = bs x := by
  unfold bs
  apply ByteArray.ext
  simp [ByteArray.data_extract]
theorem print_cases (t : Tok) : (printR [t, mkT 7]).2 ≠ 0 ∨ (okT t = true ∧ printR [t, mkT 7] = (bs (writL t.kind t.text ++ [10]), 0) ∧ (writL t.kind t.text).length + 1 ≤ 65536) := by
  unfold printR
  rw [okL_two, printL_two]
  cases h : okT t with
  | false => exact Or.inl (by simp)
  | true =>
    simp only [Bool.true_eq_false, if_false]
    by_cases h2 : 65536 < (writL t.kind t.text ++ [10]).length
    · rw [if_pos h2]; exact Or.inl (by simp)
    · rw [if_neg h2]; exact Or.inr ⟨trivial, rfl, by simp at h2; omega⟩
theorem print_lit (l : List Tok) (W : World) (hl : l.length ≤ 1000000) : Calls Try.prog 9 #[.slice (some ⟨W.heap.size, 0, none⟩) l.length l.length] (W.alloc (.cells (tkV l).toArray 26)) fun e w' => e = .returned (.tuple #[.string (printR l).1, .int .i64 (printR l).2]) ∧ Below W.heap.size W w' :=
  (print_calls (isTk_lit W l hl)).mono fun e w' ⟨h1, h2⟩ => ⟨h1, by
    have hbn := (Below.refl W.heap.size W).alloc (Nat.le_refl _) (.cells (tkV l).toArray 26)
    exact hbn.trans (h2.mono hbn.size)⟩
theorem print2 (t : Tok) (W : World) : Calls Try.prog 9 #[.slice (some ⟨W.heap.size, 0, none⟩) 2 2] (W.alloc (.cells #[.int .i64 t.kind, .string t.text, .int .i64 t.line, .int .i64 t.place, .int .i64 7, .string ⟨#[]⟩, .int .i64 0, .int .i64 0] 26)) fun e w' => e = .returned (.tuple #[.string (printR [t, mkT 7]).1, .int .i64 (printR [t, mkT 7]).2]) ∧ Below W.heap.size W w' := by
  have h := print_lit [t, mkT 7] W (by show 2 ≤ 1000000; omega)
  generalize printR [t, mkT 7] = pr at *
  exact h
theorem bs_LP (l : List UInt8) : (bs l).data.toList = l := by unfold bs; simp
set_option maxRecDepth 100000 in
set_option maxHeartbeats 8000000 in
theorem tokenParts_walk {v0 v1 : Value} {l0 : List Tok} {xs : List Int} (w : World) (h0 : IsTk w v0 l0) (h1 : IsI w v1 xs) : Calls Try.prog 3 #[v0, v1] w fun e w' => e = .returned (.bool true) ∧ Below w.heap.size w w' := by
  obtain ⟨a, c, rfl, hlc, hcm, _, _⟩ := id h0
  obtain ⟨_, a1, c1, rfl, hlc1, hcm1, _⟩ := id h1
  have H1 := hide (told_calls w)
  have HT0 := hide h0
  have HX := hide h1
  generalize hn0 : l0.length = n0 at *
  have HN0 := hide hn0
  generalize hn1 : xs.length = n1 at *
  have HN1 := hide hn1
  clear h0 h1 hn0 hn1
  go_enter Try.func3, Try.ntmps3
  go_wp2_with fail
  refine (unhide H1).mono ?_
  rintro e w1 ⟨rfl, hb1⟩
  go_wp2_with fail
  go_loopw [5, 6, 7] (fun tv wv iv wq => ∃ (i : Nat) (T : ByteArray), i ≤ n0 ∧ i ≤ 60 ∧ T.size ≤ i * 70000 ∧ iv = .int .i64 (i : Int) ∧ tv = .string T ∧ Hid (∃ (Wl : List Tok) (s : St), Wl.length ≤ i ∧ OwnT wq w.heap.size wv Wl ∧ Pi T.data.toList Wl s ∧ (Wl = [] → T.size = 0)) ∧ Below w.heap.size w wq) (fun _ _ iv _ => 60 - (intOf iv).toNat)
  case atStart => exact ⟨0, ⟨#[]⟩, by omega, by omega, by decide, rfl, rfl, ⟨[], st0, by simp, OwnT.nil _ _, pi_nil, fun _ => rfl⟩, hb1⟩
  case round =>
    rename World => w3
    obtain ⟨i, T, hin, hi2, hTs, rfl, rfl, ⟨Wl, s, hWl, hOW, hPi, hZ⟩, hbw⟩ := hrel
    clear H1 hb1
    obtain ⟨wa, wc, hwv⟩ := hOW.shape
    subst hwv
    have HOW := hide hOW
    have HPI := hide hPi
    have HZ := hide hZ
    clear hZ
    generalize hwn : Wl.length = wn at *
    have HWN := hide hwn
    clear hOW hPi hwn
    have HTS := hide hTs
    have hi7 : i * 70000 ≤ 60 * 70000 := Nat.mul_le_mul_right _ hi2
    have hT2 : T.size ≤ 4200000 := by omega
    have HTS1 : Hid (T.size ≤ (i + 1) * 70000) := Nat.le_trans hTs (Nat.mul_le_mul_right _ (Nat.le_succ i))
    clear hTs hi7
    by_cases hlt : i < n0 ∧ i < 60
    · obtain ⟨hl1, hl2⟩ := hlt
      have hI : (i : Int) < (n0 : Int) := by omega
      have hI2 : (i : Int) < 60 := by omega
      obtain ⟨bt, ot, rfl, y0, y1, y2, y3⟩ := HT0.out.at hbw (i := i) (by rw [HN0.out]; exact hl1)
      generalize l0.getD i .nul = t at *
      obtain ⟨tk, tt, tl, tp⟩ := t
      simp only at y0 y1 y2 y3
      have HPV := hide (print2 ⟨tk, tt, tl, tp⟩ (w3.alloc (.cells #[.int .i64 tk, .string tt, .int .i64 tl, .int .i64 tp] 26)))
      rw [show (w3.alloc (.cells #[.int .i64 tk, .string tt, .int .i64 tl, .int .i64 tp] 26)).heap.size = w3.heap.size + 1 by simp] at HPV
      have HA : Hid (At4 (w3.alloc (.cells #[.int .i64 tk, .string tt, .int .i64 tl, .int .i64 tp] 26)) w3.heap.size 0 ⟨tk, tt, tl, tp⟩) := by
        show At4 _ _ _ _
        refine ⟨?_, ?_, ?_, ?_⟩ <;> simp
      have hbA := (Below.refl w3.heap.size w3).alloc (Nat.le_refl _) (.cells #[.int .i64 tk, .string tt, .int .i64 tl, .int .i64 tp] 26)
      have HPC := hide (print_cases ⟨tk, tt, tl, tp⟩)
      generalize printR [⟨tk, tt, tl, tp⟩, mkT 7] = PR at *
      obtain ⟨ps, pe⟩ := PR
      simp only at HPV
      go_wp2_with fail
      refine (unhide HPV).mono ?_
      rintro e w5 ⟨rfl, hb5⟩
      have hA5 : At4 w5 w3.heap.size 0 ⟨tk, tt, tl, tp⟩ := HA.out.below (by rw [show (w3.alloc (.cells #[.int .i64 tk, .string tt, .int .i64 tl, .int .i64 tp] 26)).heap.size = w3.heap.size + 1 by simp]; exact hb5)
      have hb35 := hbA.trans (hb5.mono (Nat.le_succ _))
      have HB35 := hide hb35
      have hb05 := hbw.trans (hb35.mono hbw.size)
      have HOW5 := hide (HOW.out.below hb35)
      have hfz : w5.frozen? ⟨w3.heap.size, 1, none⟩ = false := Arr.frozen (Arr.below (Arr.new w3 [.int .i64 tk, .string tt, .int .i64 tl, .int .i64 tp] 26) (by rw [show (w3.alloc (.cells [Value.int .i64 tk, .string tt, .int .i64 tl, .int .i64 tp].toArray 26)).heap.size = w3.heap.size + 1 by simp]; exact hb5)) 1
      obtain ⟨m0, m1, m2, m3⟩ := hA5
      simp only at m0 m1 m2 m3
      clear HPV HA hbA hb5 hb35 y0 y1 y2 y3
      rcases HPC.out with hpe | ⟨hok, hpe, hpl⟩
      · have be : (pe != 0) = true := by simpa using hpe
        clear hpe HPC
        go_wp2
        go_roundw
        case rel => exact ⟨i + 1, T, by omega, by omega, HTS1.out, by go_num, rfl, ⟨Wl, s, by rw [HWN.out]; omega, HOW5.out, HPI.out, HZ.out⟩, hb05⟩
        case measure => simp [intOf]; omega
      · injection hpe with hps hpe
        subst hpe
        clear HPC
        by_cases h7 : tk = 7
        · subst h7
          go_wp2
          go_roundw
          case rel => exact ⟨i + 1, T, by omega, by omega, HTS1.out, by go_num, rfl, ⟨Wl, s, by rw [HWN.out]; omega, HOW5.out, HPI.out, HZ.out⟩, hb05⟩
          case measure => simp [intOf]; omega
        · have b7 : (tk == 7) = false := by simpa using h7
          have HOK := hide hok
          have HPS := hide hps
          have hpz : ps.size = (writL tk tt).length + 1 := by rw [hps, bs_size0]; simp
          have HPZ := hide hpz
          have hps0 : 0 < ps.size := by omega
          have hps6 : ps.size ≤ 65536 := by omega
          have bz : ((ps.size : Int) == 0) = false := by rw [beq_eq_false_iff_ne]; omega
          clear hok hps hpz
          go_upto_if 53 with fail
          go_cut [11] from 19 to 113 (fun gv wc => ∃ g : Nat, gv = .int .i64 (g : Int) ∧ g ≤ 3 ∧ w5 = wc)
          case first =>
            by_cases h1 : i < n1
            · have hI1 : (i : Int) < (n1 : Int) := by omega
              obtain ⟨bx, ox, rfl, hx0, hx1, hx2⟩ := HX.out.at hb05 (i := i) (by rw [HN1.out]; exact h1)
              generalize xs.getD i 0 = x at *
              obtain ⟨g1, hg1, hgb⟩ := bits_and3 x
              go_wp2
              go_meet
              exact ⟨g1, rfl, hg1, rfl⟩
            · have hI1 : ¬ (i : Int) < (n1 : Int) := by omega
              go_wp2
              go_meet
              exact ⟨1, rfl, by omega, rfl⟩
          case rest =>
            obtain ⟨g1, rfl, hg1, rfl⟩ := hcut
            go_upto_region 16 with fail
            go_cut [80] from 19 to 113 (fun gv wc => ∃ b : Bool, gv = .bool b ∧ (b = false → g1 = 0 → tk = 1 → ∀ h : Wl ≠ [], (Wl.getLast h).kind ≠ 1) ∧ w5 = wc)
            case first =>
              by_cases hw0 : wn = 0
              · subst hw0
                have hnil : Hid (∀ h : Wl ≠ [], (Wl.getLast h).kind ≠ 1) := fun h => absurd (List.eq_nil_of_length_eq_zero HWN.out) h
                go_wp2
                go_meet
                exact ⟨false, rfl, fun _ _ _ => hnil.out, rfl⟩
              · obtain ⟨q, rfl⟩ : ∃ q, wn = q + 1 := ⟨wn - 1, by omega⟩
                have jw : (0 : Int) < ((q + 1 : Nat) : Int) := by omega
                obtain ⟨gw, cw, hvw, hcw1, hcw2, _, _⟩ := HOW5.out.front (by rw [HWN.out]; omega)
                rw [HWN.out] at hvw hcw1
                injection hvw with e1 _ e3
                subst e1 e3
                have hOW5 := HOW5.out
                have hck := hOW5.cellTk HWN.out (k := q) (j := 0) (by omega) (by omega)
                have hck : w5.cell? ⟨gw, q * 4, none⟩ = some (.int .i64 (Wl.getD q .nul).kind) := hck
                have HLK : Hid (∀ h : Wl ≠ [], (Wl.getLast h).kind = (Wl.getD q .nul).kind) := fun h => by
                  rw [List.getLast_eq_getElem, List.getD_eq_getElem?_getD, List.getElem?_eq_getElem (by rw [HWN.out]; omega)]
                  simp only [HWN.out, Nat.add_sub_cancel]
                  rfl
                clear hOW5
                generalize (Wl.getD q .nul).kind = kl at *
                rename_i hck0
                clear hck0
                by_cases hg10 : g1 = 0
                · subst hg10
                  by_cases ht1 : tk = 1
                  · subst ht1
                    by_cases hk1 : kl = 1
                    · subst hk1
                      go_wp2
                      go_meet
                      exact ⟨true, rfl, (fun h => by cases h), rfl⟩
                    · have bk : (kl == 1) = false := by simpa using hk1
                      have HNK : Hid (∀ h : Wl ≠ [], (Wl.getLast h).kind ≠ 1) := fun h => by rw [HLK.out h]; exact hk1
                      go_wp2
                      go_meet
                      exact ⟨false, rfl, fun _ _ _ => HNK.out, rfl⟩
                  · have bk : (tk == 1) = false := by simpa using ht1
                    go_wp2
                    go_meet
                    exact ⟨false, rfl, fun _ _ h => absurd h ht1, rfl⟩
                · have bk : ((g1 : Int) == 0) = false := by rw [beq_eq_false_iff_ne]; omega
                  go_wp2
                  go_meet
                  exact ⟨false, rfl, fun _ h => absurd h hg10, rfl⟩
            case rest =>
              obtain ⟨b, rfl, hb, rfl⟩ := hcut
              go_upto_if 80 with fail
              go_cut [11] from 19 to 113 (fun gv wc => ∃ g : Nat, gv = .int .i64 (g : Int) ∧ g ≤ 3 ∧ (g = 0 → tk = 1 → ∀ h : Wl ≠ [], (Wl.getLast h).kind ≠ 1) ∧ w5 = wc)
              case first =>
                cases b with
                | true =>
                  go_wp2
                  go_meet
                  exact ⟨1, rfl, by omega, fun h => by omega, rfl⟩
                | false =>
                  have HB := hide (hb rfl)
                  clear hb
                  go_wp2
                  go_meet
                  exact ⟨g1, rfl, hg1, HB.out, rfl⟩
              case rest =>
                obtain ⟨g, rfl, hg3, hg0, rfl⟩ := hcut
                have HG0 := hide hg0
                clear hg0 hb hg1
                go_wp2_with fail
                go_loopw [5, 12] (fun tv kv wq => ∃ (k : Nat) (T2 : ByteArray), k ≤ g ∧ kv = .int .i64 (k : Int) ∧ tv = .string T2 ∧ T2.size = T.size + k ∧ Hid (T2.data.toList = T.data.toList ++ List.replicate k 32) ∧ Hid (wq = w5)) (fun _ kv _ => g - (intOf kv).toNat)
                case atStart => exact ⟨0, T, by omega, rfl, rfl, rfl, by show _ = _; simp, rfl⟩
                case round =>
                  rename World => w6
                  obtain ⟨k, T2, hk, rfl, rfl, hT2s, HT2, HW6⟩ := hrel
                  by_cases hkg : k < g
                  · have hkI : (k : Int) < (g : Int) := by omega
                    go_wp2
                    go_roundw
                    case rel =>
                      refine ⟨k + 1, _, by omega, by go_num, rfl, ?_, ?_, HW6⟩
                      · rw [ByteArray.size_append]; show T2.size + 1 = _; omega
                      · show _ = _
                        rw [ByteArray.data_append, Array.toList_append, HT2.out, List.replicate_succ', List.append_assoc]
                    case measure => simp [intOf]; omega
                  · have hkI : ¬ (k : Int) < (g : Int) := by omega
                    obtain rfl : k = g := by omega
                    have hw6 := HW6.out.symm
                    subst hw6
                    clear HW6
                    have hPA := HPI.out.add k ⟨tk, tt, tl, tp⟩ HOK.out h7 HG0.out
                    rw [← HT2.out] at hPA
                    have HPA := hide hPA
                    clear hPA
                    have hT2b : T2.size ≤ 4200003 := by omega
                    have HT2S := hide hT2s
                    clear hT2s hT2
                    have HL1 : Hid (Wl.length + 1 ≤ 1000000000000) := by show _ ≤ _; rw [HWN.out]; omega
                    have hsz5 := hb05.size
                    have hp1 : (0 : Int) ≤ (ps.size : Int) - 1 := by omega
                    have hp2 : (ps.size : Int) - 1 ≤ (ps.size : Int) := by omega
                    have HSZ : Hid ((T2 ++ ps.extract 0 (ps.size - 1)).size ≤ (i + 1) * 70000) := by
                      show _ ≤ _
                      have h1 := HTS.out
                      have h2 := HT2S.out
                      rw [ByteArray.size_append, ByteArray.size_extract, Nat.add_mul]
                      omega
                    have HFIN : Hid (∀ v7 w7, OwnT w7 w.heap.size v7 (Wl ++ [⟨tk, tx ⟨tk, tt, tl, tp⟩, 1, (T2.size : Int)⟩]) → ∃ (Wl : List Tok) (s : St), Wl.length ≤ i + 1 ∧ OwnT w7 w.heap.size v7 Wl ∧ Pi (T2 ++ ps.extract 0 (ps.size - 1)).data.toList Wl s ∧ (Wl = [] → (T2 ++ ps.extract 0 (ps.size - 1)).size = 0)) := fun v7 w7 hO7 => by
                      obtain ⟨s2, hs2⟩ := HPA.out
                      refine ⟨_, s2, ?_, hO7, ?_, fun h => absurd h (by simp)⟩
                      · rw [List.length_append, HWN.out]; show wn + 1 ≤ _; omega
                      · rw [ByteArray.data_append, Array.toList_append, HPZ.out, Nat.add_sub_cancel, HPS.out, prefix_bs, bs_LP, HT2S.out]
                        rw [len_data] at hs2
                        exact hs2
                    clear HPA HPI HTS HTS1
                    by_cases k12 : tk = 1 ∨ tk = 2
                    · have HTX : Hid (tx ⟨tk, tt, tl, tp⟩ = tt) := by show _ = _; unfold tx; rw [if_pos k12]
                      have hnew := hide (tok_new w5 ⟨tk, tt, 1, (T2.size : Int)⟩)
                      have HO6 := hide (HOW5.out.below ((Below.refl w5.heap.size w5).alloc (Nat.le_refl _) (.cells (tkC ⟨tk, tt, 1, (T2.size : Int)⟩).toArray 26)))
                      have hb6 := hb05.alloc hsz5 (.cells (tkC ⟨tk, tt, 1, (T2.size : Int)⟩).toArray 26)
                      have hsz6 := hb6.size
                      rcases k12 with hk1 | hk2
                      · subst hk1
                        go_wp2_with (at_builtin; refine wpList_appTk rfl (.tmp 97) (.tmp 105) rfl rfl (l := Wl) (m := [⟨1, tt, 1, (T2.size : Int)⟩]) HO6.out rfl rfl hnew.out HL1.out hsz6 ?_; intro v7 w7 hO7 hg7 hv7 hat7; (have hb7 := below_app hb6 hg7 hsz6 hv7); (have HO7 := hide hO7); clear hO7 hg7 hv7 hat7)
                        refine ⟨⟨i + 1, _, by omega, by omega, HSZ.out, by go_num, rfl, unhide HFIN v7 w7 (by rw [HTX.out]; exact HO7.out), hb7⟩, ?_⟩
                        simp [intOf]; omega
                      · subst hk2
                        go_wp2_with (at_builtin; refine wpList_appTk rfl (.tmp 97) (.tmp 105) rfl rfl (l := Wl) (m := [⟨2, tt, 1, (T2.size : Int)⟩]) HO6.out rfl rfl hnew.out HL1.out hsz6 ?_; intro v7 w7 hO7 hg7 hv7 hat7; (have hb7 := below_app hb6 hg7 hsz6 hv7); (have HO7 := hide hO7); clear hO7 hg7 hv7 hat7)
                        refine ⟨⟨i + 1, _, by omega, by omega, HSZ.out, by go_num, rfl, unhide HFIN v7 w7 (by rw [HTX.out]; exact HO7.out), hb7⟩, ?_⟩
                        simp [intOf]; omega
                    · have HTX : Hid (tx ⟨tk, tt, tl, tp⟩ = ⟨#[]⟩) := by show _ = _; unfold tx; rw [if_neg k12]; rfl
                      have b1 : (tk != 1) = true := by simp; omega
                      have b2 : (tk != 2) = true := by simp; omega
                      have hgs : w5.grownBy (w5.setCell ⟨w3.heap.size, 1, none⟩ (.string ⟨#[]⟩)) (some w3.heap.size) := ⟨rfl, rfl, rfl, by simp [World.setCell], fun k _ hne => Below.heap_setCell w5 ⟨w3.heap.size, 1, none⟩ (.string ⟨#[]⟩) k (fun e => hne (by rw [e]))⟩
                      have hap : (Value.slice wa wn wc).ownBlock = none ∨ (Value.slice wa wn wc).ownBlock ≠ some w3.heap.size := by
                        cases hv : (Value.slice wa wn wc).ownBlock with
                        | none => exact Or.inl rfl
                        | some x =>
                          have h9 := (HOW.out.lt x hv).2
                          exact Or.inr fun e => absurd h9 (by injection e with e; omega)
                      have HO5 := hide (HOW5.out.kept hgs hap)
                      clear hap
                      have hb51 := hb05.setCell (p := ⟨w3.heap.size, 1, none⟩) hbw.size (.string ⟨#[]⟩)
                      have hnew := hide (tok_new (w5.setCell ⟨w3.heap.size, 1, none⟩ (.string ⟨#[]⟩)) ⟨tk, ⟨#[]⟩, 1, (T2.size : Int)⟩)
                      rw [show (w5.setCell ⟨w3.heap.size, 1, none⟩ (.string ⟨#[]⟩)).heap.size = w5.heap.size by simp [World.setCell]] at hnew
                      have HO6 := hide (HO5.out.below ((Below.refl (w5.setCell ⟨w3.heap.size, 1, none⟩ (.string ⟨#[]⟩)).heap.size (w5.setCell ⟨w3.heap.size, 1, none⟩ (.string ⟨#[]⟩))).alloc (Nat.le_refl _) (.cells (tkC ⟨tk, ⟨#[]⟩, 1, (T2.size : Int)⟩).toArray 26)))
                      have hb6 := hb51.alloc hb51.size (.cells (tkC ⟨tk, ⟨#[]⟩, 1, (T2.size : Int)⟩).toArray 26)
                      have hsz6 := hb6.size
                      clear k12 hgs
                      go_wp2_with (at_builtin; refine wpList_appTk rfl (.tmp 97) (.tmp 105) rfl rfl (l := Wl) (m := [⟨tk, ⟨#[]⟩, 1, (T2.size : Int)⟩]) HO6.out rfl rfl hnew.out HL1.out hsz6 ?_; intro v7 w7 hO7 hg7 hv7 hat7; (have hb7 := below_app hb6 hg7 hsz6 hv7); (have HO7 := hide hO7); clear hO7 hg7 hv7 hat7)
                      refine ⟨⟨i + 1, _, by omega, by omega, HSZ.out, by go_num, rfl, unhide HFIN v7 w7 (by rw [HTX.out]; exact HO7.out), hb7⟩, ?_⟩
                      simp [intOf]; omega
    · have hcase : ¬ (i : Int) < (n0 : Int) ∨ ((i : Int) < (n0 : Int) ∧ ¬ (i : Int) < 60) := by omega
      clear hlt
      have hsz3 := hbw.size
      have HL1 : Hid (Wl.length + 1 ≤ 1000000000000) := by show _ ≤ _; rw [HWN.out]; omega
      have hnew := hide (tok_new w3 ⟨7, ⟨#[]⟩, 1, (T.size : Int)⟩)
      have HO6 := hide (HOW.out.below ((Below.refl w3.heap.size w3).alloc (Nat.le_refl _) (.cells (tkC ⟨7, ⟨#[]⟩, 1, (T.size : Int)⟩).toArray 26)))
      have hb6 := hbw.alloc hsz3 (.cells (tkC ⟨7, ⟨#[]⟩, 1, (T.size : Int)⟩).toArray 26)
      have hsz6 := hb6.size
      have HTK := hide (fun W => tokens_calls (T ++ ⟨#[32, 10]⟩) W)
      have HPD : Hid (T.size ≤ 60000 → tokL (T ++ ⟨#[32, 10]⟩).data.toList = (Wl ++ [⟨7, ⟨#[]⟩, 1, (T.size : Int)⟩], 0, 0, 0)) := fun h => by
        have := HPI.out.done (by rw [len_data]; exact h)
        rw [len_data] at this
        rw [ByteArray.data_append, Array.toList_append]
        exact this
      clear HPI HTS HTS1 HT0 HX
      rcases hcase with j1 | ⟨j1, j2⟩
      all_goals (
        go_wp2_with (at_builtin; refine wpList_appTk rfl (.tmp 114) (.tmp 118) rfl rfl (l := Wl) (m := [⟨7, ⟨#[]⟩, 1, (T.size : Int)⟩]) HO6.out rfl rfl hnew.out HL1.out hsz6 ?_; intro v7 w7 hO7 hg7 hv7 hat7; (have hb7 := below_app hb6 hg7 hsz6 hv7); (have hl7 : (Wl ++ [Tok.mk 7 ⟨#[]⟩ 1 (T.size : Int)]).length = wn + 1 := by rw [List.length_append, HWN.out]; rfl); (obtain ⟨g7, c7, hv7e, hc71, hc72, hg7B, hg7w⟩ := hO7.front (by rw [hl7]; omega)); rw [hl7] at hv7e hc71; subst hv7e; (have HO7 := hide hO7); clear hO7 hg7 hv7 hat7)
        refine (unhide HTK w7).mono ?_
        rintro e w8 ⟨v8, rfl, hO8, hb8⟩
        have hb08 := hb7.trans (hb8.mono hb7.size)
        by_cases h60 : T.size ≤ 60000
        · have j60 : ¬ (60000 : Int) < (T.size : Int) := by omega
          rw [HPD.out h60] at hO8 ⊢
          simp only at hO8 ⊢
          obtain ⟨a8, c8, hv8⟩ := hO8.shape
          subst hv8
          have HO8 := hide hO8
          rw [hl7] at HO8 ⊢
          have HO78 := hide (HO7.out.below hb8)
          have HSM : Hid (∀ W, OwnT W w7.heap.size (.slice a8 (wn + 1) c8) (Wl ++ [⟨7, ⟨#[]⟩, 1, (T.size : Int)⟩]) → OwnT W w.heap.size (.slice (some ⟨g7, 0, none⟩) (wn + 1) c7) (Wl ++ [⟨7, ⟨#[]⟩, 1, (T.size : Int)⟩]) → Calls Try.prog 11 #[.slice a8 (wn + 1) c8, .slice (some ⟨g7, 0, none⟩) (wn + 1) c7] W fun e w' => e = .returned (.bool true) ∧ Below W.heap.size W w') := fun W h1 h2 => by
            have := same_calls h1.isTk h2.isTk
            rw [decide_eq_true rfl] at this
            exact this
          by_cases hw0 : wn = 0
          · subst hw0
            have hWn : Wl = [] := List.eq_nil_of_length_eq_zero HWN.out
            subst hWn
            have hT0 := HZ.out rfl
            rw [hT0] at HO8 HO78 HSM
            have hc8 := HO78.out.cellTk rfl (k := 0) (j := 3) (by omega) (by omega)
            have hc9 : w8.cell? ⟨g7, 3, none⟩ = some (.int .i64 0) := hc8
            have hf9 : w8.frozen? ⟨g7, 3, none⟩ = false := (HO78.out.room rfl (k := 0) (by omega) 3 (by omega)).2
            have hst := World.ownsRow.stored HO78.out 3 (.int .i64 0)
            have hst1 : OwnT (w8.setCell ⟨g7, 3, none⟩ (.int .i64 0)) w.heap.size (.slice (some ⟨g7, 0, none⟩) (0 + 1) c7) ([] ++ [⟨7, ⟨#[]⟩, 1, ((0 : Nat) : Int)⟩]) := hst.1
            have hne8 : (Value.slice a8 (0 + 1) c8).ownBlock = none ∨ (Value.slice a8 (0 + 1) c8).ownBlock ≠ some g7 := by
              cases hv : (Value.slice a8 (0 + 1) c8).ownBlock with
              | none => exact Or.inl rfl
              | some x =>
                have h9 := (HO8.out.lt x hv).1
                exact Or.inr fun e => absurd h9 (by injection e with e; omega)
            have hO89 := HO8.out.kept hst.2 hne8
            have HS9 := hide (unhide HSM _ hO89 hst1)
            have hb9 := hb08.setCell (p := ⟨g7, 3, none⟩) hg7B (.int .i64 0)
            clear hc8 hst hst1 hne8 hO89
            go_wp2_with fail
            refine (unhide HS9).mono ?_
            rintro e w9 ⟨rfl, hb10⟩
            go_wp2
            try rw [Exit.noGoto_ret]
            go_ret
            exact ⟨rfl, hb9.trans (hb10.mono hb9.size)⟩
          · have bw : ((wn : Int) + 1 == 1) = false := by rw [beq_eq_false_iff_ne]; omega
            have HS9 := hide (unhide HSM w8 HO8.out HO78.out)
            go_wp2_with fail
            refine (unhide HS9).mono ?_
            rintro e w9 ⟨rfl, hb10⟩
            go_wp2
            try rw [Exit.noGoto_ret]
            go_ret
            exact ⟨rfl, hb08.trans (hb10.mono hb08.size)⟩
        · have j60 : (60000 : Int) < (T.size : Int) := by omega
          obtain ⟨a8, c8, hv8⟩ := hO8.shape
          subst hv8
          clear hO8
          generalize (tokL (T ++ ⟨#[32, 10]⟩).data.toList).1.length = n8 at *
          go_wp2
          try rw [Exit.noGoto_ret]
          go_ret
          exact ⟨rfl, hb08⟩)
end Go.Proofs.Ytcdilcjgmcamcab
