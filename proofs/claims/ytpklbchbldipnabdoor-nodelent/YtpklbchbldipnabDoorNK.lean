/- The document's ahead, Check. -/
import Derived.Test.YtpklbchbldipnabDoorNJ
import Derived.Deep.QuietTactic
import Derived.BigQuiet
namespace Go.Proofs.YtpklbchbldipnabDoor
open Go.RowKit Go.Maps

theorem below_drewN {w W : World} {n : Nat} (h : Below w.heap.size w W) : Below w.heap.size w (W.drewN n) := h.trans ((drewn_below W n).mono h.size)
set_option maxRecDepth 100000 in
set_option maxHeartbeats 4000000 in
theorem ahead_calls {x y : List Int} (hx : Byt x) (hy : Byt y) (hxl : x.length ≤ 140737488360000) (hyl : y.length ≤ 140737488360000) (w : World) :
    Calls Tryd.prog 45 #[.string (mkS x), .string (mkS y)] w fun e w' => e = .returned (.bool (ahd x y)) ∧ Below w.heap.size w w' := by
  have HIX : Hid (∀ j, j < x.length → ∀ W, (Instr.index 9 (.string (mkS x)) (.int .i64 (j : Int))).run Tryd.prog W = .ok (.int .u8 (x.getD j 0)) W) := fun j hj W => by
    have := index_str (mkS x) j (by rw [mkS_size]; exact hj) W
    rwa [byt_mkS hx] at this
  have HIY : Hid (∀ j, j < y.length → ∀ W, (Instr.index 9 (.string (mkS y)) (.int .i64 (j : Int))).run Tryd.prog W = .ok (.int .u8 (y.getD j 0)) W) := fun j hj W => by
    have := index_str (mkS y) j (by rw [mkS_size]; exact hj) W
    rwa [byt_mkS hy] at this
  have hzx : (((mkS x).size : Nat) : Int) = (x.length : Int) := by rw [mkS_size]
  have hzy : (((mkS y).size : Nat) : Int) = (y.length : Int) := by rw [mkS_size]
  generalize mkS x = sx at *
  generalize mkS y = sy at *
  obtain ⟨n, hn⟩ : ∃ n, n = x.length := ⟨_, rfl⟩
  obtain ⟨m, hm⟩ : ∃ m, m = y.length := ⟨_, rfl⟩
  rw [← hn] at hzx hxl
  rw [← hm] at hzy hyl
  have HN := hide hn
  have HM := hide hm
  clear hn hm hx hy
  go_enter Tryd.func45, Tryd.ntmps45
  go_wp2_with fail
  go_loopw [5] (fun iv W => ∃ i : Nat, i ≤ n ∧ i ≤ m ∧ iv = .int .i64 (i : Int) ∧ Below w.heap.size w W ∧ Hid (ahd x y = ahd (x.drop i) (y.drop i))) (fun i _ => n - (intOf i).toNat)
  case atStart => exact ⟨0, by omega, by omega, rfl, Below.refl _ _, rfl⟩
  case round =>
    obtain ⟨i, hin, him, rfl, hbw, HI⟩ := hrel
    by_cases hlt : i < n
    · have hltI : (i : Int) < (n : Int) := by omega
      by_cases hlm : i < m
      · have hlmI : (i : Int) < (m : Int) := by omega
        have h1 := unhide HIX i (by rw [← HN.out]; exact hlt)
        have h2 := unhide HIY i (by rw [← HM.out]; exact hlm)
        have HST := hide (HI.out.trans (ahd_step (x := x) (y := y) (i := i) (by rw [← HN.out]; exact hlt) (by rw [← HM.out]; exact hlm)))
        generalize x.getD i 0 = p at *
        generalize y.getD i 0 = q at *
        by_cases hpq : p = q
        · rw [if_pos hpq] at HST
          have hd : (p != q) = false := by rw [hpq]; simp
          clear HI hpq
          go_wp2_with fail
          go_quiet (fail)
          go_wp2
          go_roundw
          case rel => exact ⟨i + 1, by omega, by omega, by go_num, below_drewN hbw, HST⟩
          case measure => simp [intOf]; omega
        · rw [if_neg hpq] at HST
          have hd : (p != q) = true := by simpa using hpq
          clear HI hpq
          go_wp2_with fail
          go_quiet (fail)
          go_wp2_with fail
          go_quiet (fail)
          go_wp2
          go_ret
          exact ⟨by rw [HST.out]; rfl, below_drewN (below_drewN hbw)⟩
      · have hlmI : ¬ (i : Int) < (m : Int) := by omega
        have HF := hide (HI.out.trans (ahd_end (x := x) (y := y) (i := i) (Or.inr (by rw [← HM.out]; omega)) (by rw [← HN.out]; omega) (by rw [← HM.out]; omega)))
        clear HI
        go_wp2
        go_ret
        exact ⟨by rw [HF.out, ← HN.out, ← HM.out]; rfl, hbw⟩
    · have hltI : ¬ (i : Int) < (n : Int) := by omega
      have HF := hide (HI.out.trans (ahd_end (x := x) (y := y) (i := i) (Or.inl (by rw [← HN.out]; omega)) (by rw [← HN.out]; omega) (by rw [← HM.out]; omega)))
      clear HI
      go_wp2
      go_ret
      exact ⟨by rw [HF.out, ← HN.out, ← HM.out]; rfl, hbw⟩
set_option maxRecDepth 100000 in
set_option maxHeartbeats 4000000 in
theorem rcheck_calls {w : World} {v : Value} {l : List Ent} (h : IsEn w v l) : Calls Tryd.prog 38 #[v] w fun e w' => e = .returned (.int .i64 (chkL nbL l)) ∧ Below w.heap.size w w' := by
  obtain ⟨a, c, rfl⟩ := h.shape
  have hle := h.lenEq
  obtain ⟨n, hn⟩ : ∃ n, n = l.length := ⟨_, rfl⟩
  rw [← hn] at h hle ⊢
  have hnc := hle.2
  have HQ : Hid (chkL nbL l = if 1024 < n then 82 else chkF nbL (ahN l 0) (l.drop 0)) := by rw [hn]; rfl
  generalize chkL nbL l = q at *
  have HN := hide hn
  have HH := hide h
  clear h hle hn
  by_cases hbig : 1024 < n
  · have hbi : (1024 : Int) < (n : Int) := by omega
    go_enter Tryd.func38, Tryd.ntmps38
    go_wp2
    go_ret
    exact ⟨by rw [HQ.out, if_pos hbig]; rfl, Below.refl _ _⟩
  · have hbi : ¬ (1024 : Int) < (n : Int) := by omega
    rw [if_neg hbig] at HQ
    go_enter Tryd.func38, Tryd.ntmps38
    go_wp2_with fail
    go_loopw [3] (fun iv W => ∃ i : Nat, i ≤ n ∧ iv = .int .i64 (i : Int) ∧ Below w.heap.size w W ∧ Hid (q = chkF nbL (ahN l i) (l.drop i))) (fun i _ => n - (intOf i).toNat)
    case atStart => exact ⟨0, by omega, rfl, Below.refl _ _, HQ⟩
    case round =>
      obtain ⟨i, hin, rfl, hbw, HI⟩ := hrel
      by_cases hlt : i < n
      · have hltI : (i : Int) < (n : Int) := by omega
        have hE := HH.out.below hbw
        obtain ⟨b, o, rfl, hr⟩ := hE.spot (by omega)
        have hil : i < l.length := by rw [← HN.out]; exact hlt
        have HR := hide (hr i hlt)
        have hm0 := hE.name hlt
        have hok := en_get (P := EnOk) hE.ok hil
        have HST := hide (chkF_cases nbL hil HI.out)
        have HNM : Hid (Calls Tryd.prog 61 #[.string (mkS (l.getD i .nul).nm)] wr fun e w' => e = .returned (.bool (nbL (l.getD i .nul).nm)) ∧ w' = wr) := rname_calls _ (by rw [mkS_size]; exact hok.nl) _ (name_iff _) wr
        have HSD := hide (fun W => rsound_calls hok.ok W)
        have HOK := hide hok.ok
        have HCN : Hid (chkN nbL (ahN l i) (l.getD i .nul).nm = if nbL (l.getD i .nul).nm = false then 81 else if late (ahN l i) (l.getD i .nul).nm = true then 83 else 0) := rfl
        have HLT : Hid (i = 0 → late (ahN l i) (l.getD i .nul).nm = false) := fun h => by subst h; rfl
        have HAH : Hid (0 < i → (∀ W, Below wr.heap.size wr W → W.cell? ⟨b, o + (i - 1) * 68, none⟩ = some (.string (mkS (l.getD (i - 1) .nul).nm))) ∧ ∀ W, Calls Tryd.prog 45 #[.string (mkS (l.getD (i - 1) .nul).nm), .string (mkS (l.getD i .nul).nm)] W fun e w' => e = .returned (.bool (!late (ahN l i) (l.getD i .nul).nm)) ∧ Below W.heap.size W w') := fun h => by
          have hok2 := en_get (P := EnOk) hE.ok (show i - 1 < l.length by omega)
          refine ⟨fun W hW => (hE.below hW).name (by omega), fun W => ?_⟩
          have hq : (!late (ahN l i) (l.getD i .nul).nm) = ahd (l.getD (i - 1) .nul).nm (l.getD i .nul).nm := by
            unfold ahN
            rw [if_neg (by omega)]
            show (!(!_)) = _
            rw [Bool.not_not]
          rw [hq]
          exact ahead_calls hok2.ok.nm hok.ok.nm hok2.nl hok.nl W
        generalize mkS (l.getD (i - 1) .nul).nm = sp at *
        generalize hcn : chkN nbL (ahN l i) (l.getD i .nul).nm = cn at *
        generalize late (ahN l i) (l.getD i .nul).nm = lt at *
        generalize nbL (l.getD i .nul).nm = nq at *
        generalize l.getD i .nul = x at *
        generalize hsx : mkS x.nm = s at *
        clear hr hE hok HI
        cases nq with
        | false =>
          have HF := hide (HST.out.1 (by rw [HCN.out]; simp))
          rw [HCN.out] at HF
          clear HST HCN hcn hsx
          go_wp2_with (go_at_call 61; refine (unhide HNM).mono ?_; rintro e w1 ⟨rfl, hw1⟩; obtain rfl := hw1.symm; clear hw1)
          go_ret
          exact ⟨by rw [HF.out]; rfl, hbw⟩
        | true =>
          rw [if_neg (by decide)] at HCN
          by_cases hi0 : 0 < i
          · have hi0I : (0 : Int) < (i : Int) := by omega
            obtain ⟨hcp, hca⟩ := unhide HAH hi0
            have HCA := hide hca
            have HS8 : Hid (∀ W, Below wr.heap.size wr W → W.cell? ⟨b, o + (i - 1) * 68, none⟩ = some (.string sp) ∧ W.cell? ⟨b, o + i * 68, none⟩ = some (.string s)) := fun W hW => ⟨hcp W hW, (hW.cell (p := ⟨b, o + i * 68, none⟩) (World.block_lt_of_cell? wr _ hm0)).trans hm0⟩
            obtain ⟨k, hk⟩ : ∃ k, i - 1 = k := ⟨_, rfl⟩
            have hJ : ((i : Int) - 1) = (k : Int) := by omega
            have hJ2 : (k : Int) < (n : Int) := by omega
            have hJ3 : (0 : Int) ≤ (k : Int) := by omega
            have hJ4 : IntKind.i64.wrap ((i : Int) - 1) = (k : Int) := by rw [hJ]; exact IntWalk.i64_in _ ⟨by omega, by omega⟩
            have hJ5 : (k : Int) < 9223372036854775807 := by omega
            rw [hk] at HS8
            clear hcp hca HAH hk hJ
            go_wp2_with (go_at_call 61; refine (unhide HNM).mono ?_; rintro e w1 ⟨rfl, hw1⟩; obtain rfl := hw1.symm; clear hw1)
            focus (go_region_held3 (fun W => W.cell? ⟨b, o + k * 68, none⟩ = some (.string sp) ∧ W.cell? ⟨b, o + i * 68, none⟩ = some (.string s))
              ((refine unhide HS8 _ ?_; (repeat (first | assumption | exact below_drew hb9 | exact Below.refl _ _ | refine Below.drew ?_))))
              (first
                | (go_at_call 45; refine (unhide HCA _).mono ?_; rintro e w9 ⟨rfl, hb9⟩)))
            have hbw9 := hbw.trans ((below_drew hb9).mono hbw.size)
            have HR9 := hide (range_kept HR.out (below_drew hb9))
            clear hb9
            cases lt with
            | true =>
              have HF := hide (HST.out.1 (by rw [HCN.out]; simp))
              rw [HCN.out] at HF
              clear HST HCN hcn hsx
              go_wp2
              go_ret
              exact ⟨by rw [HF.out]; rfl, hbw9⟩
            | false =>
              have HC0 : Hid (cn = 0) := by show _ = _; rw [HCN.out]; simp
              cases hsn : sndE x with
              | true =>
                rw [hsn] at HSD
                have HST2 := hide (HST.out.2.2 HC0.out hsn)
                clear HST HCN hcn hsx hsn
                go_wp2_with (first
                  | (refine wpList_load_mid rfl 38 (.tmp 39) rfl b (o + i * 68) rfl (enV x) _ HR9.out Tryd.underlying38 rfl (infoEof HOK.out) ?_)
                  | (go_at_call 62; refine (unhide HSD _).mono ?_; rintro e w10 ⟨rfl, hb10⟩))
                have hbw10 := hbw9.trans (hb10.mono hbw9.size)
                go_roundw
                case rel => exact ⟨i + 1, by omega, by go_num, hbw10, HST2⟩
                case measure => simp [intOf]; omega
              | false =>
                rw [hsn] at HSD
                have HST2 := hide (HST.out.2.1 HC0.out hsn)
                clear HST HCN hcn hsx hsn
                go_wp2_with (first
                  | (refine wpList_load_mid rfl 38 (.tmp 39) rfl b (o + i * 68) rfl (enV x) _ HR9.out Tryd.underlying38 rfl (infoEof HOK.out) ?_)
                  | (go_at_call 62; refine (unhide HSD _).mono ?_; rintro e w10 ⟨rfl, hb10⟩))
                have hbw10 := hbw9.trans (hb10.mono hbw9.size)
                go_ret
                exact ⟨by rw [HST2.out]; rfl, hbw10⟩
          · have hi0I : ¬ (0 : Int) < (i : Int) := by omega
            have hdi : decide ((0 : Int) < (i : Int)) = false := decide_eq_false hi0I
            obtain rfl : lt = false := unhide HLT (by omega)
            go_wp2_with (go_at_call 61; refine (unhide HNM).mono ?_; rintro e w1 ⟨rfl, hw1⟩; obtain rfl := hw1.symm; clear hw1)
            go_quiet (fail)
            have hbw9 := below_drewN (n := nq) hbw
            have HR9 := hide (range_kept HR.out (drewn_below wr nq))
            have HC0 : Hid (cn = 0) := by show _ = _; rw [HCN.out]; simp
            cases hsn : sndE x with
            | true =>
              rw [hsn] at HSD
              have HST2 := hide (HST.out.2.2 HC0.out hsn)
              clear HST HCN hcn hsx hsn
              go_wp2_with (first
                | (refine wpList_load_mid rfl 38 (.tmp 39) rfl b (o + i * 68) rfl (enV x) _ HR9.out Tryd.underlying38 rfl (infoEof HOK.out) ?_)
                | (go_at_call 62; refine (unhide HSD _).mono ?_; rintro e w10 ⟨rfl, hb10⟩))
              have hbw10 := hbw9.trans (hb10.mono hbw9.size)
              go_roundw
              case rel => exact ⟨i + 1, by omega, by go_num, hbw10, HST2⟩
              case measure => simp [intOf]; omega
            | false =>
              rw [hsn] at HSD
              have HST2 := hide (HST.out.2.1 HC0.out hsn)
              clear HST HCN hcn hsx hsn
              go_wp2_with (first
                | (refine wpList_load_mid rfl 38 (.tmp 39) rfl b (o + i * 68) rfl (enV x) _ HR9.out Tryd.underlying38 rfl (infoEof HOK.out) ?_)
                | (go_at_call 62; refine (unhide HSD _).mono ?_; rintro e w10 ⟨rfl, hb10⟩))
              have hbw10 := hbw9.trans (hb10.mono hbw9.size)
              go_ret
              exact ⟨by rw [HST2.out]; rfl, hbw10⟩
      · have hltI : ¬ (i : Int) < (n : Int) := by omega
        have HF : Hid (q = 0) := by
          show _ = _
          rw [HI.out, List.drop_eq_nil_of_le (by rw [← HN.out]; omega)]
          rfl
        go_wp2
        go_ret
        exact ⟨by rw [HF.out]; rfl, hbw⟩
end Go.Proofs.YtpklbchbldipnabDoor
