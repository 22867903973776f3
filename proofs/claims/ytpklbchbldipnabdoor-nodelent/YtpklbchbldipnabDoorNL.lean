/- The document's Encode. -/
import Derived.Test.YtpklbchbldipnabDoorNK
namespace Go.Proofs.YtpklbchbldipnabDoor
open Go.RowKit Go.Maps

theorem EnAt.keyAt {w : World} {g : Nat} {e : Ent} (h : EnAt w g e) (hl : e.key.length = 32) {k : Nat} (hk : k < 32) : w.cell? ⟨g, 2 + k, none⟩ = some (.int .u8 (e.key.getD k 0)) ∧ 0 ≤ e.key.getD k 0 ∧ e.key.getD k 0 ≤ 255 := by
  obtain ⟨hb, a, c, hv, _, _, _, hc⟩ := h.key
  obtain ⟨b, o, ha, hcell⟩ := hc (by omega)
  injection hv with e1 _ _
  rw [ha] at e1
  injection e1 with e1
  injection e1 with e1 e2
  subst e1 e2
  exact ⟨hcell k (by omega), hb k⟩
theorem EnAt.hashAt {w : World} {g : Nat} {e : Ent} (h : EnAt w g e) (hl : e.hash.length = 32) {k : Nat} (hk : k < 32) : w.cell? ⟨g, 34 + k, none⟩ = some (.int .u8 (e.hash.getD k 0)) ∧ 0 ≤ e.hash.getD k 0 ∧ e.hash.getD k 0 ≤ 255 := by
  obtain ⟨hb, a, c, hv, _, _, _, hc⟩ := h.hash
  obtain ⟨b, o, ha, hcell⟩ := hc (by omega)
  injection hv with e1 _ _
  rw [ha] at e1
  injection e1 with e1
  injection e1 with e1 e2
  subst e1 e2
  exact ⟨hcell k (by omega), hb k⟩
theorem take_one (xs : List Int) {k : Nat} (h : k < xs.length) : xs.take (k + 1) = xs.take k ++ [xs.getD k 0] := by
  rw [List.take_succ_eq_append_getElem h, List.getD_eq_getElem?_getD, List.getElem?_eq_getElem h]
  rfl
set_option maxRecDepth 100000 in
set_option maxHeartbeats 4000000 in
theorem rencode_calls {w : World} {v : Value} {l : List Ent} (h : IsEn w v l) : Calls Tryd.prog 18 #[v] w fun e w' => ∃ u, e = .returned (.tuple #[u, .int .i64 (chkL nbL l)]) ∧ Own8 w' w.heap.size u (encR l) ∧ Below w.heap.size w w' := by
  obtain ⟨a, c, rfl⟩ := h.shape
  have HCK := hide (rcheck_calls h)
  obtain ⟨n, hn⟩ : ∃ n, n = l.length := ⟨_, rfl⟩
  rw [← hn] at h HCK ⊢
  have hnc := h.lenEq.2
  by_cases hq : chkL nbL l = 0
  · have HER : Hid (encR l = (1 :: uBytes (n : Int)) ++ l.flatMap entB) := by show _ = _; unfold encR; rw [if_pos hq, hn]; rfl
    have HFN := hide (fine_all h.ok hq)
    have hn1 : n ≤ 1024 := by have := (chkL_le hq).1; omega
    rw [hq] at HCK ⊢
    have HN := hide hn
    have HH := hide h
    have HUL := hide (uBytes_le (n : Int))
    clear h hn hq
    go_enter Tryd.func18, Tryd.ntmps18
    go_wp2_with (first
      | (go_at_call 38; refine (unhide HCK).mono ?_; rintro e w1 ⟨rfl, hb1⟩)
      | (go_at_call 39; refine (rnumber_calls (n : Int) _ (by omega) (by omega)).mono ?_; rintro e w2 ⟨v2, rfl, ho2, hb2⟩)
      | (at_builtin; refine wpList_appB rfl (.tmp 16) (.tmp 19) rfl rfl ((own8_lit w1 1 (by decide) hb1.size).below hb2) rfl ho2.isB (by simp; have := HUL.out; omega) (Nat.le_trans (Nat.le_trans hb1.size (lit_blw _ _).size) hb2.size) ?_; intro v3 w3 ho3 hg3))
    have HB3 : Hid (Below w.heap.size w w3) := belowCh hb1 (((ch_lit _ _).trans (Ch.of_below hb2)).trans (((own8_lit w1 1 (by decide) hb1.size).below hb2).ch hg3)) hb1.size
    clear ho2 hg3 hb2 hb1
    go_loopw [5, 6] (fun bv iv W => ∃ i : Nat, i ≤ n ∧ iv = .int .i64 (i : Int) ∧ Below w.heap.size w W ∧ Own8 W w.heap.size bv ((1 :: uBytes (n : Int)) ++ (l.take i).flatMap entB)) (fun _ i _ => n - (intOf i).toNat)
    case atStart => exact ⟨0, by omega, rfl, HB3.out, by simpa using ho3⟩
    case round =>
      clear ho3 HB3
      obtain ⟨i, hin, rfl, hbw, ho⟩ := hrel
      by_cases hlt : i < n
      · have hltI : (i : Int) < (n : Int) := by omega
        have hE := HH.out.below hbw
        obtain ⟨b, o, rfl, hr⟩ := hE.spot (by omega)
        have hil : i < l.length := by rw [← HN.out]; exact hlt
        have HR := hide (hr i hlt)
        have HF := hide (en_get (P := Fine) HFN.out hil)
        have HTF := hide (take_flat entB hil)
        have hxl : ((1 :: uBytes (n : Int)) ++ (l.take i).flatMap entB).length ≤ 200000 := by
          have h1 := flat_lt (l := l.take i) (fun e he => HFN.out e (List.mem_of_mem_take he))
          have h2 := HUL.out
          rw [List.length_take] at h1
          rw [List.length_append, List.length_cons]
          omega
        have HEX : Hid (∀ xs : List Int, xs = (1 :: uBytes (n : Int)) ++ (l.take i).flatMap entB → (((((xs ++ bB (l.getD i .nul).nm) ++ [if (l.getD i .nul).dir then 1 else 0]) ++ (l.getD i .nul).key) ++ (l.getD i .nul).hash) ++ fB (l.getD i .nul).fi 4) ++ fB (l.getD i .nul).ln 4 = (1 :: uBytes (n : Int)) ++ (l.take (i + 1)).flatMap entB) := fun xs hx => by
          rw [HTF.out, hx]
          unfold entB headB
          simp
        have HBL := hide (bB_len (l.getD i .nul).nm)
        generalize l.getD i .nul = x at *
        generalize hxs : (1 :: uBytes (n : Int)) ++ (l.take i).flatMap entB = xs at ho hxl
        have HX2 := hide (unhide HEX xs hxs.symm)
        have hB0 := hbw.size
        have hkd : 0 ≤ (if x.dir = true then (1 : Int) else 0) ∧ (if x.dir = true then (1 : Int) else 0) ≤ 255 := by cases x.dir <;> decide
        have HKD := hide hkd
        have HKC := hide (kind_calls x)
        have HKL := hide HF.out.ok.ok.key.1
        have HHL := hide HF.out.ok.ok.hash.1
        have HNL := hide HF.out.nl
        generalize hkv : (if x.dir = true then (1 : Int) else 0) = kv at *
        clear hr hE hxs HTF HEX hkd hkv
        go_wp2_with (first
          | (refine wpList_load_mid rfl 38 (.tmp 29) rfl b (o + i * 68) rfl (enV x) _ HR.out Tryd.underlying38 rfl (infoEof HF.out.ok.ok) ?_)
          | (refine wpList_allocZ rfl 38 rfl infoEn ?_)
          | (refine wpList_storeAll rfl (.tmp 7) (.tmp 30) 38 rfl rfl rfl (Arr.new wr z68 38) (infoEof HF.out.ok.ok) (by rw [z68_len, enV_len HF.out.ok.ok]) (enV_one x) ?_; intro w5 hA5 hw5; have hb5 : Below wr.heap.size wr w5 := hw5.below _ _ (lit_blw _ _) (Nat.le_refl _); have ho5 := ho.below hb5; have hB5 := Nat.le_trans hB0 hb5.size; have hE5 := enAt hA5 HF.out.ok.ok; have hm5 := hE5.nm; clear hw5 ho hE5)
          | (go_at_call 40; refine (text_calls HF.out.ok.ok.nm (by have := HNL.out; omega) w5).mono ?_; rintro e w6 ⟨v6, rfl, ho6, hb6⟩; have ho6' := ho5.below hb6; have hB6 := Nat.le_trans hB5 hb6.size; clear hm5)
          | (at_builtin; refine wpList_appB rfl (.tmp 31) (.tmp 34) rfl rfl ho6' rfl ho6.isB (by have := HBL.out; have := HNL.out; omega) hB6 ?_; intro v7 w7 ho7 hg7; have hc7 := (Ch.of_below (B := w.heap.size) (T := U8) hb6).trans (ho6'.ch hg7); have hA7 := hA5.ch hc7 u8_en; have hB7 := Nat.le_trans hB5 hc7.size; clear ho5 ho6 ho6' hg7 hb6)
          | (refine wpList_load_mid rfl 38 (.tmp 7) rfl wr.heap.size 0 rfl (enV x) _ hA7.range Tryd.underlying38 rfl (infoEof HF.out.ok.ok) ?_)
          | (go_at_call 41; refine (unhide HKC w7).mono ?_; rintro e w8 ⟨rfl, hb8⟩; have ho8 := ho7.below hb8; have hB8 := Nat.le_trans hB7 hb8.size; clear ho7)
          | (at_builtin; refine wpList_appB rfl (.tmp 36) (.tmp 39) rfl rfl (ho8.below (lit_blw _ _)) rfl (isB_one1 w8 kv HKD.out) (by simp; have := HBL.out; have := HNL.out; omega) (Nat.le_trans hB8 (lit_blw _ _).size) ?_; intro v9 w9 ho9 hg9; have hc9 := (hc7.trans (Ch.of_below hb8)).trans ((ch_lit _ _).trans ((ho8.below (lit_blw _ _)).ch hg9)); have hA9 := hA5.ch hc9 u8_en; have hB9 := Nat.le_trans hB5 hc9.size; have HL9 : Hid ((xs ++ bB x.nm ++ [kv]).length ≤ 300000) := (by have := HBL.out; have := HNL.out; show _ ≤ _; simp; omega); clear ho8 hg9 hb8 hA7 hc7))
        have hb9 : Below w.heap.size w w9 := belowCh (hbw.trans (hb5.mono hB0)) hc9 hB5
        generalize hg : wr.heap.size = g at *
        clear hbw hb5 HR hg hB0 hc9 hA5 hB5 hB6 hB7 hB8
        go_loopw [5, 8] (fun bv iv W => ∃ k : Nat, k ≤ 32 ∧ iv = .int .i64 (k : Int) ∧ Own8 W w.heap.size bv (xs ++ bB x.nm ++ [kv] ++ x.key.take k) ∧ Ch w.heap.size U8 w9 W) (fun _ i _ => 32 - (intOf i).toNat)
        case atStart => exact ⟨0, by omega, rfl, by simpa using ho9, Ch.refl _ _ _⟩
        case round =>
          clear ho9
          obtain ⟨k, hk32, rfl, hok, hck⟩ := hrel
          have hAk := hA9.ch hck u8_en
          have hBk := Nat.le_trans hB9 hck.size
          by_cases hk : k < 32
          · have hkI : (k : Int) < 32 := by omega
            obtain ⟨hmk, hb1, hb2⟩ := (enAt hAk HF.out.ok.ok).keyAt HKL.out hk
            have HTK := hide (take_one x.key (show k < x.key.length by rw [HKL.out]; exact hk))
            have HBY : Hid (0 ≤ x.key.getD k 0 ∧ x.key.getD k 0 ≤ 255) := ⟨hb1, hb2⟩
            generalize x.key.getD k 0 = y at *
            clear hb1 hb2
            go_wp2_with (at_builtin; refine wpList_appB rfl (.tmp 45) (.tmp 50) rfl rfl (hok.below (lit_blw _ _)) rfl (isB_one1 wr y HBY.out) (by have := HL9.out; simp only [List.length_append, List.length_take, List.length_cons, List.length_nil] at *; omega) (Nat.le_trans hBk (lit_blw _ _).size) ?_; intro v11 w11 ho11 hg11)
            have hck2 := hck.trans ((ch_lit _ _).trans ((hok.below (lit_blw _ _)).ch hg11))
            rw [List.append_assoc, ← HTK.out] at ho11
            clear hok hAk hg11
            go_roundw
            case rel => exact ⟨k + 1, by omega, by go_num, ho11, hck2⟩
            case measure => simp [intOf]; omega
          · have hkI : ¬ (k : Int) < 32 := by omega
            rw [List.take_of_length_le (by rw [HKL.out]; omega)] at hok
            rename World => wk
            have hbk := belowCh hb9 hck hB9
            have HLk : Hid ((xs ++ bB x.nm ++ [kv] ++ x.key).length ≤ 400000) := by have := HL9.out; have := HKL.out; show _ ≤ _; rw [List.length_append]; omega
            clear hck hA9 hB9 hb9
            go_wp2_with fail
            go_loopw [5, 9] (fun bv iv W => ∃ k : Nat, k ≤ 32 ∧ iv = .int .i64 (k : Int) ∧ Own8 W w.heap.size bv (xs ++ bB x.nm ++ [kv] ++ x.key ++ x.hash.take k) ∧ Ch w.heap.size U8 wk W) (fun _ i _ => 32 - (intOf i).toNat)
            case atStart => exact ⟨0, by omega, rfl, by simpa using hok, Ch.refl _ _ _⟩
            case round =>
              clear hok
              obtain ⟨q, hq32, rfl, hoq, hcq⟩ := hrel
              have hAq := hAk.ch hcq u8_en
              have hBq := Nat.le_trans hBk hcq.size
              by_cases hq : q < 32
              · have hqI : (q : Int) < 32 := by omega
                obtain ⟨hmk, hb1, hb2⟩ := (enAt hAq HF.out.ok.ok).hashAt HHL.out hq
                have HTK := hide (take_one x.hash (show q < x.hash.length by rw [HHL.out]; exact hq))
                have HBY : Hid (0 ≤ x.hash.getD q 0 ∧ x.hash.getD q 0 ≤ 255) := ⟨hb1, hb2⟩
                generalize x.hash.getD q 0 = y at *
                clear hb1 hb2
                go_wp2_with (at_builtin; refine wpList_appB rfl (.tmp 56) (.tmp 62) rfl rfl (hoq.below (lit_blw _ _)) rfl (isB_one1 wr y HBY.out) (by have := HLk.out; simp only [List.length_append, List.length_take, List.length_cons, List.length_nil] at *; omega) (Nat.le_trans hBq (lit_blw _ _).size) ?_; intro v11 w11 ho11 hg11)
                have hck2 := hcq.trans ((ch_lit _ _).trans ((hoq.below (lit_blw _ _)).ch hg11))
                rw [List.append_assoc, ← HTK.out] at ho11
                clear hoq hAq hg11
                go_roundw
                case rel => exact ⟨q + 1, by omega, by go_num, ho11, hck2⟩
                case measure => simp [intOf]; omega
              · have hqI : ¬ (q : Int) < 32 := by omega
                rw [List.take_of_length_le (by rw [HHL.out]; omega)] at hoq
                have hbq := belowCh hbk hcq hBk
                have HLq : Hid ((xs ++ bB x.nm ++ [kv] ++ x.key ++ x.hash).length ≤ 500000) := by have := HLk.out; have := HHL.out; show _ ≤ _; rw [List.length_append]; omega
                have m66 := (enAt hAq HF.out.ok.ok).fi
                have HFL := hide (fB_len x.fi 4)
                have HLL := hide (fB_len x.ln 4)
                clear hcq hAk hBk hbk
                go_wp2_with fail
                refine (four_calls x.fi wr HF.out.fi.1 (by have := HF.out.fi.2; omega)).mono ?_
                rintro e w12 ⟨v12, rfl, ho12, hb12⟩
                have hoq2 := hoq.below hb12
                go_wp2_with (at_builtin; refine wpList_appB rfl (.tmp 64) (.tmp 68) rfl rfl hoq2 rfl ho12.isB (by have := HLq.out; have := HFL.out; omega) (Nat.le_trans hBq hb12.size) ?_; intro v13 w13 ho13 hg13; have hc13 := (Ch.of_below (B := w.heap.size) (T := U8) hb12).trans (hoq2.ch hg13); have hA13 := hAq.ch hc13 u8_en; have m67 := (enAt hA13 HF.out.ok.ok).ln; have hB13 := Nat.le_trans hBq hc13.size; clear hoq hoq2 m66 hg13 ho12)
                refine (four_calls x.ln w13 HF.out.ln.1 (by have := HF.out.ln.2; omega)).mono ?_
                rintro e w14 ⟨v14, rfl, ho14, hb14⟩
                have hoq3 := ho13.below hb14
                go_wp2_with (at_builtin; refine wpList_appB rfl (.tmp 70) (.tmp 74) rfl rfl hoq3 rfl ho14.isB (by have := HLq.out; have := HFL.out; have := HLL.out; simp only [List.length_append] at *; omega) (Nat.le_trans hB13 hb14.size) ?_; intro v15 w15 ho15 hg15)
                have hb15 : Below w.heap.size w w15 := belowCh (belowCh hbq hc13 hBq) ((Ch.of_below hb14).trans (hoq3.ch hg15)) hB13
                rw [HX2.out] at ho15
                clear hoq3 ho13 hg15 ho14
                go_roundw
                case rel => exact ⟨i + 1, by omega, by go_num, hb15, ho15⟩
                case measure => simp [intOf]; omega
      · have hltI : ¬ (i : Int) < (n : Int) := by omega
        have HF : Hid (Own8 wr w.heap.size u5 (encR l)) := by
          show Own8 _ _ _ _
          rw [HER.out]
          rw [List.take_of_length_le (by rw [← HN.out]; omega)] at ho
          exact ho
        clear ho
        go_wp2
        go_ret2
        exact ⟨_, rfl, HF.out, hbw⟩
  · have hq0 : (chkL nbL l != 0) = true := by simpa using hq
    have HER : Hid (encR l = []) := by show _ = _; unfold encR; rw [if_neg hq]
    generalize chkL nbL l = q at *
    clear h hn hq
    go_enter Tryd.func18, Tryd.ntmps18
    go_wp2_with (go_at_call 38; refine (unhide HCK).mono ?_; rintro e w1 ⟨rfl, hb1⟩)
    go_ret2
    exact ⟨_, rfl, by rw [HER.out]; exact Own8.nil _ _, hb1⟩
end Go.Proofs.YtpklbchbldipnabDoor
