/- KeyOf: the program's, and the document's. -/
import Derived.Test.YtpklbchbldipnabDoorNM
import Derived.Test.YtpklbchbldipnabDoorNU
import Derived.Test.YtpklbchbldipnabDoorNR
namespace Go.Proofs.YtpklbchbldipnabDoor
open Go.RowKit Go.Maps

theorem build0_run (W : World) : (Instr.build 32 #[]).run Tryd.prog W = .ok (.agg z32.toArray) W := by kernel_rfl
section
variable {ops : Array Oper} {rest : List Oper} {o : Oper} {a : Act} {Q : Exit → Act → World → Prop} {w : World}
theorem wpList_build0 (hgd : o.guard = none) (ho : o.op = .build 32 #[]) (hk : wpList Tryd.prog ops Q rest (a.put o.dst (.agg z32.toArray)) w) : wpList Tryd.prog ops Q (o :: rest) a w := by
  refine wpList_plain hgd fun K hK => ?_
  have h1 := build0_run w
  unfold Oper.wp execOp
  simp only [ho, Sem.run_bind, List.map_toArray, List.map_nil, h1, Result.andThen_ok, Sem.run_pure]
  exact hK _ _ hk
end
theorem results_arr2 {fn : Func} {p q : Tmp} {t e : TypeId} {n g : Nat} {tmps : Array Value} {w : World} {cs : List Value} (h : fn.results = #[.cell p t, .tmp q]) (ha : tmps.getD p undef = .pointer (some ⟨g, 0, none⟩)) (hA : Arr w g t cs) (hu : Tryd.prog.underlying t = some (.array n e)) (hi : (Tryd.prog.info? t).map (·.size) = some cs.length) :
    (results fn tmps).run Tryd.prog w = .ok (.tuple #[.agg cs.toArray, tmps.getD q undef]) w := by
  have h1 := hA.load hu hi
  have ha' : tmps[p]?.getD undef = .pointer (some ⟨g, 0, none⟩) := by simpa using ha
  simp [results, h, asAddr, ha', h1]
/-- What KeyOf tells. -/
def keyR (l : List Ent) : List Int := if chkL nbL l = 0 then shaOf (keyL l) else List.replicate 32 0
def zK : List Int := List.replicate 32 0
theorem z32_zK : z32 = zK.map (Value.int .u8) := by unfold z32 zK; rw [List.map_replicate]
theorem shaOf_len (xs : List Int) : (shaOf xs).length = 32 := by rw [shaOf, keyB_len]
theorem keyR_len (l : List Ent) : (keyR l).length = 32 := by
  unfold keyR
  split
  · exact shaOf_len _
  · simp
set_option maxRecDepth 100000 in
set_option maxHeartbeats 4000000 in
theorem rkeyOf_calls {w : World} {v : Value} {l : List Ent} (h : IsEn w v l) : Calls Tryd.prog 19 #[v] w fun e w' => e = .returned (.tuple #[.agg ((keyR l).map (Value.int .u8)).toArray, .int .i64 (chkL nbL l)]) ∧ Below w.heap.size w w' := by
  obtain ⟨a, c, rfl⟩ := h.shape
  have hA := Arr.new w z32 32
  have hb0 := lit_blw w (.cells z32.toArray 32)
  have HCK := hide (rcheck_calls (h.below hb0))
  by_cases hq : chkL nbL l = 0
  · have HKR : Hid (keyR l = shaOf (keyL l)) := by show _ = _; unfold keyR; rw [if_pos hq]
    have HFN := hide (fine_all h.ok hq)
    have hn1 : l.length ≤ 1024 := (chkL_le hq).1
    rw [hq] at HCK ⊢
    have HH := hide (h.below hb0)
    have HKL : Hid ((keyL l).length ≤ 200000) := by
      have := keys_lt HFN.out
      show _ ≤ _
      rw [keyL_eq, List.length_cons]
      omega
    have hi48 : (Tryd.prog.info? 32).map (·.size) = some ((keyR l).map (Value.int .u8)).length := infoKof (keyR_len l)
    have hl48 : z32.length = ((keyR l).map (Value.int .u8)).length := by rw [List.length_map, keyR_len, z32_len]
    have hone48 := u8_one (keyR l)
    have HKV : Hid (keyV (keyL l) = .agg ((keyR l).map (Value.int .u8)).toArray) := by show _ = _; rw [HKR.out]; rfl
    generalize (keyR l).map (Value.int .u8) = KV at *
    clear h hq
    go_enter Tryd.func19, Tryd.ntmps19
    go_wp2_with (first
      | (refine wpList_allocZ rfl 32 rfl infoK ?_)
      | (go_at_call 38; refine (unhide HCK).mono ?_; rintro e w1 ⟨rfl, hb1⟩; have hA1 := hA.below hb1; have hB1 := hb0.trans (hb1.mono hb0.size))
      | (go_at_call 32; refine (hashed_calls (HH.out.below hb1) HFN.out (by omega)).mono ?_; rintro e w2 ⟨v2, rfl, ho2, hb2⟩; have hA2 := hA1.below hb2; have hB2 := hB1.trans (hb2.mono hB1.size))
      | (go_at_call 33; refine (rsum_calls ho2.isB (by have := HKL.out; omega)).mono ?_; rw [HKV.out]; rintro e w3 ⟨rfl, hb3⟩; have hA3 := hA2.below hb3; have hB3 := hB2.trans (hb3.mono hB2.size))
      | (refine wpList_storeArr2 (cs' := KV) rfl (.tmp 2) (.tmp 13) 32 rfl rfl rfl hA3 hi48 hl48 hone48 ?_; intro w8 hR8 hw8))
    exact bodyPost_ret (results_arr2 rfl rfl hR8 Tryd.underlying32 hi48) rfl ⟨rfl, hw8.below _ _ hB3 (Nat.le_refl _)⟩
  · have hq0 : (chkL nbL l != 0) = true := by simpa using hq
    have HKR : Hid ((keyR l).map (Value.int .u8) = z32) := by show _ = _; unfold keyR; rw [if_neg hq, z32_zK]; rfl
    generalize chkL nbL l = q at *
    rw [HKR.out]
    have hone48 : ∀ u ∈ z32, u.oneCell' = true := by rw [z32_zK]; exact u8_one zK
    have hi48 : (Tryd.prog.info? 32).map (·.size) = some z32.length := by rw [z32_len]; exact infoKz
    clear h hq
    go_enter Tryd.func19, Tryd.ntmps19
    go_wp2_with (first
      | (refine wpList_allocZ rfl 32 rfl infoK ?_)
      | (refine wpList_build0 rfl rfl ?_)
      | (go_at_call 38; refine (unhide HCK).mono ?_; rintro e w1 ⟨rfl, hb1⟩; have hA1 := hA.below hb1; have hB1 := hb0.trans (hb1.mono hb0.size))
      | (refine wpList_storeArr2 (cs' := z32) rfl (.tmp 2) (.tmp 9) 32 rfl rfl rfl hA1 hi48 rfl hone48 ?_; intro w8 hR8 hw8))
    exact bodyPost_ret (results_arr2 rfl rfl hR8 Tryd.underlying32 hi48) rfl ⟨rfl, hw8.below _ _ hB1 (Nat.le_refl _)⟩
/-- The two tables of sha. -/
structure Tabs (w : World) : Prop where
  k : TabK w
  s : TabS w
theorem Tabs.below {w w' : World} (h : Tabs w) (hb : Below w.heap.size w w') : Tabs w' := ⟨h.k.below hb, h.s.below hb⟩
set_option maxRecDepth 100000 in
set_option maxHeartbeats 4000000 in
theorem keyOf_calls {w : World} {v : Value} {l : List Ent} (h : IsEn w v l) (hT : Tabs w) : Calls Tryd.prog 11 #[v] w fun e w' => e = .returned (.tuple #[.agg ((keyR l).map (Value.int .u8)).toArray, .int .i64 (chkL nbL l)]) ∧ Below w.heap.size w w' := by
  obtain ⟨a, c, rfl⟩ := h.shape
  have hA := Arr.new w z32 32
  have hb0 := lit_blw w (.cells z32.toArray 32)
  have HCK := hide (check_calls (h.below hb0))
  by_cases hq : chkL nbL l = 0
  · have HKR : Hid (keyR l = shaOf (keyL l)) := by show _ = _; unfold keyR; rw [if_pos hq]
    have HFN := hide (fine_all h.ok hq)
    have hn1 : l.length ≤ 1024 := (chkL_le hq).1
    rw [hq] at HCK ⊢
    have HH := hide h
    have HKL : Hid ((keyL l).length ≤ 200000) := by
      have := keys_lt HFN.out
      show _ ≤ _
      rw [keyL_eq, List.length_cons]
      omega
    have hi48 : (Tryd.prog.info? 32).map (·.size) = some ((keyR l).map (Value.int .u8)).length := infoKof (keyR_len l)
    have hl48 : z32.length = ((keyR l).map (Value.int .u8)).length := by rw [List.length_map, keyR_len, z32_len]
    have hone48 := u8_one (keyR l)
    have HKV : Hid (keyV (keyL l) = .agg ((keyR l).map (Value.int .u8)).toArray) := by show _ = _; rw [HKR.out]; rfl
    generalize (keyR l).map (Value.int .u8) = KV at *
    obtain ⟨n, hn⟩ : ∃ n, n = l.length := ⟨_, rfl⟩
    rw [← hn] at HCK hn1 ⊢
    have HN := hide hn
    have HT := hide hT
    have hnc : n ≤ c ∧ c ≤ 9223372036854775807 := by rw [hn]; exact h.lenEq.2
    rw [← hn] at HH
    clear h hq hn hT
    go_enter Tryd.func11, Tryd.ntmps11
    go_wp2_with (first
      | (refine wpList_allocZ rfl 32 rfl infoK ?_)
      | (go_at_call 16; refine (unhide HCK).mono ?_; rintro e w1 ⟨rfl, hb1⟩; have hA1 := hA.below hb1; have hB1 := hb0.trans (hb1.mono hb0.size)))
    have HB3 : Hid (Below w.heap.size w (w1.alloc (.cells #[.int .u8 1] 5))) := hB1.trans ((lit_blw _ _).mono hB1.size)
    have HO3 := hide (own8_lit w1 1 (by decide) hB1.size)
    have HA3 := hide (hA1.below (lit_blw w1 (.cells #[.int .u8 1] 5)))
    clear hA hb0 hA1 hB1 hb1
    go_loopw [5, 17] (fun bv iv W => ∃ i : Nat, i ≤ n ∧ iv = .int .i64 (i : Int) ∧ Below w.heap.size w W ∧ Arr W w.heap.size 32 z32 ∧ Own8 W w.heap.size bv (1 :: (l.take i).flatMap keyE)) (fun _ i _ => n - (intOf i).toNat)
    case atStart => exact ⟨0, by omega, rfl, HB3.out, HA3.out, by simpa using HO3.out⟩
    case round =>
      clear HB3 HO3 HA3
      obtain ⟨i, hin, rfl, hbw, hAw, ho⟩ := hrel
      by_cases hlt : i < n
      · have hltI : (i : Int) < (n : Int) := by omega
        have hE := HH.out.below hbw
        obtain ⟨b, o, rfl, hr⟩ := hE.spot (by omega)
        have hil : i < l.length := by rw [← HN.out]; exact hlt
        have HR := hide (hr i hlt)
        have HF := hide (en_get (P := Fine) HFN.out hil)
        have HTF := hide (take_flat keyE hil)
        have hxl : (1 :: (l.take i).flatMap keyE).length ≤ 300000 := by
          have h1 := keys_lt (l := l.take i) (fun e he => HFN.out e (List.mem_of_mem_take he))
          rw [List.length_take] at h1
          rw [List.length_cons]
          omega
        have HEX : Hid (∀ xs : List Int, xs = 1 :: (l.take i).flatMap keyE → (xs ++ headB (l.getD i .nul)) ++ (if (l.getD i .nul).dir then [] else uBytes (l.getD i .nul).ln) = 1 :: (l.take (i + 1)).flatMap keyE) := fun xs hx => by
          rw [HTF.out, hx]
          unfold keyE
          simp
        have HHL := hide (headB_len HF.out.ok.ok)
        have HBL := hide (bB_len (l.getD i .nul).nm)
        generalize l.getD i .nul = x at *
        generalize hxs : 1 :: (l.take i).flatMap keyE = xs at ho hxl
        have HX2 := hide (unhide HEX xs hxs.symm)
        have hB0 := hbw.size
        have HUL := hide (uBytes_le x.ln)
        have HNL := hide HF.out.nl
        clear hr hE hxs HTF HEX
        cases hdr : x.dir with
        | true =>
          rw [hdr] at HX2
          rw [if_pos rfl, List.append_nil] at HX2
          go_wp2_with (first
            | (refine wpList_load_mid rfl 38 (.tmp 19) rfl b (o + i * 68) rfl (enV x) _ HR.out Tryd.underlying38 rfl (infoEof HF.out.ok.ok) ?_)
            | (refine wpList_allocZ rfl 38 rfl infoEn ?_)
            | (refine wpList_storeAll rfl (.tmp 7) (.tmp 20) 38 rfl rfl rfl (Arr.new wr z68 38) (infoEof HF.out.ok.ok) (by rw [z68_len, enV_len HF.out.ok.ok]) (enV_one x) ?_; intro w5 hA5 hw5; have hb5 : Below wr.heap.size wr w5 := hw5.below _ _ (lit_blw _ _) (Nat.le_refl _); have ho5 := ho.below hb5; have hB5 := Nat.le_trans hB0 hb5.size; have hK5 := hAw.below hb5; clear hw5 ho hAw)
            | (refine wpList_load_mid rfl 38 (.tmp 7) rfl wr.heap.size 0 rfl (enV x) _ hA5.range Tryd.underlying38 rfl (infoEof HF.out.ok.ok) ?_)
            | (go_at_call 29; refine (addHead_calls ho5 hB5 HF.out.ok HF.out.nl (by omega)).mono ?_; rintro e w6 ⟨v6, rfl, ho6, hc6⟩; have hA6 := hA5.ch hc6 u8_en; have hK6 := hK5.ch hc6 u8_key; have hE6 := enAt hA6 HF.out.ok.ok; have hB6 := Nat.le_trans hB5 hc6.size; have m1 := hE6.dir; rw [hdr] at m1; have m67 := hE6.ln; have hb6 := belowCh (hbw.trans (hb5.mono hB0)) hc6 hB5; clear ho5 hE6 hK5 hA5))
          rw [HX2.out] at ho6
          clear hdr m1 m67
          go_roundw
          case rel => exact ⟨i + 1, by omega, by go_num, hb6, hK6, ho6⟩
          case measure => simp [intOf]; omega
        | false =>
          rw [hdr] at HX2
          rw [if_neg (by decide)] at HX2
          have hln0 := HF.out.ln.1
          have hln1 := HF.out.ln.2
          go_wp2_with (first
            | (refine wpList_load_mid rfl 38 (.tmp 19) rfl b (o + i * 68) rfl (enV x) _ HR.out Tryd.underlying38 rfl (infoEof HF.out.ok.ok) ?_)
            | (refine wpList_allocZ rfl 38 rfl infoEn ?_)
            | (refine wpList_storeAll rfl (.tmp 7) (.tmp 20) 38 rfl rfl rfl (Arr.new wr z68 38) (infoEof HF.out.ok.ok) (by rw [z68_len, enV_len HF.out.ok.ok]) (enV_one x) ?_; intro w5 hA5 hw5; have hb5 : Below wr.heap.size wr w5 := hw5.below _ _ (lit_blw _ _) (Nat.le_refl _); have ho5 := ho.below hb5; have hB5 := Nat.le_trans hB0 hb5.size; have hK5 := hAw.below hb5; clear hw5 ho hAw)
            | (refine wpList_load_mid rfl 38 (.tmp 7) rfl wr.heap.size 0 rfl (enV x) _ hA5.range Tryd.underlying38 rfl (infoEof HF.out.ok.ok) ?_)
            | (go_at_call 29; refine (addHead_calls ho5 hB5 HF.out.ok HF.out.nl (by omega)).mono ?_; rintro e w6 ⟨v6, rfl, ho6, hc6⟩; have hA6 := hA5.ch hc6 u8_en; have hK6 := hK5.ch hc6 u8_key; have hE6 := enAt hA6 HF.out.ok.ok; have hB6 := Nat.le_trans hB5 hc6.size; have m1 := hE6.dir; rw [hdr] at m1; have m67 := hE6.ln; have hb6 := belowCh (hbw.trans (hb5.mono hB0)) hc6 hB5; clear ho5 hE6 hK5 hA5)
            | (go_at_call 28; refine (uint_calls x.ln _ hln0 (top9 (by omega))).mono ?_; rintro e w7 ⟨v7, rfl, ho7, hb7⟩; have ho6' := ho6.below hb7)
            | (at_builtin; refine wpList_appB rfl (.tmp 27) (.tmp 32) rfl rfl ho6' rfl (isB_owns ho7 (uBytes_bytes hln0 (top9 (by omega)))) (by have := HHL.out; have := HBL.out; have := HNL.out; have := HUL.out; rw [List.length_append]; omega) (Nat.le_trans hB6 hb7.size) ?_; intro v8 w8 ho8 hg8))
          have hc8 := (Ch.of_below (B := w.heap.size) (T := U8) hb7).trans (ho6'.ch hg8)
          have hb8 := belowCh hb6 hc8 hB6
          have hK8 := hK6.ch hc8 u8_key
          rw [HX2.out] at ho8
          clear hdr m1 m67 ho6 ho6' ho7 hg8 hK6
          go_roundw
          case rel => exact ⟨i + 1, by omega, by go_num, hb8, hK8, ho8⟩
          case measure => simp [intOf]; omega
      · have hltI : ¬ (i : Int) < (n : Int) := by omega
        rw [List.take_of_length_le (by rw [← HN.out]; omega), ← keyL_eq] at ho
        have hTT := HT.out.below hbw
        have HS := hide (sums_calls (isBB_one ho.isB) (by have := HKL.out; simp; omega) (hTT.below (lit_blw _ _)).k (hTT.below (lit_blw _ _)).s)
        rw [List.flatten_singleton, HKV.out] at HS
        obtain ⟨av, nv, cv, rfl⟩ := ho.shape
        clear hTT ho
        go_wp2_with (first
          | (go_at_call 31; refine (unhide HS).mono ?_; rintro e w3 ⟨rfl, hb3⟩; have hA3 := hAw.below (below_then (lit_blw _ _) hb3); have hB3 := hbw.trans ((below_then (lit_blw _ _) hb3).mono hbw.size))
          | (refine wpList_storeArr2 (cs' := KV) rfl (.tmp 2) (.tmp 37) 32 rfl rfl rfl hA3 hi48 hl48 hone48 ?_; intro w8 hR8 hw8))
        exact bodyPost_ret (results_arr2 rfl rfl hR8 Tryd.underlying32 hi48) rfl ⟨rfl, hw8.below _ _ hB3 (Nat.le_refl _)⟩
  · have hq0 : (chkL nbL l != 0) = true := by simpa using hq
    have HKR : Hid ((keyR l).map (Value.int .u8) = z32) := by show _ = _; unfold keyR; rw [if_neg hq, z32_zK]; rfl
    generalize chkL nbL l = q at *
    rw [HKR.out]
    have hone48 : ∀ u ∈ z32, u.oneCell' = true := by rw [z32_zK]; exact u8_one zK
    have hi48 : (Tryd.prog.info? 32).map (·.size) = some z32.length := by rw [z32_len]; exact infoKz
    clear h hq hT
    go_enter Tryd.func11, Tryd.ntmps11
    go_wp2_with (first
      | (refine wpList_allocZ rfl 32 rfl infoK ?_)
      | (refine wpList_build0 rfl rfl ?_)
      | (go_at_call 16; refine (unhide HCK).mono ?_; rintro e w1 ⟨rfl, hb1⟩; have hA1 := hA.below hb1; have hB1 := hb0.trans (hb1.mono hb0.size))
      | (refine wpList_storeArr2 (cs' := z32) rfl (.tmp 2) (.tmp 12) 32 rfl rfl rfl hA1 hi48 rfl hone48 ?_; intro w8 hR8 hw8))
    exact bodyPost_ret (results_arr2 rfl rfl hR8 Tryd.underlying32 hi48) rfl ⟨rfl, hw8.below _ _ hB1 (Nat.le_refl _)⟩
end Go.Proofs.YtpklbchbldipnabDoor
