/- The document's Hashed. -/
import Derived.Test.YtpklbchbldipnabDoorNL
namespace Go.Proofs.YtpklbchbldipnabDoor
open Go.RowKit Go.Maps

def keyE (e : Ent) : List Int := headB e ++ (if e.dir then [] else uBytes e.ln)
theorem keyL_eq (l : List Ent) : keyL l = 1 :: l.flatMap keyE := rfl
theorem keyE_lt {e : Ent} (h : Fine e) : (keyE e).length ≤ 117 := by
  unfold keyE
  have h1 := headB_len h.ok.ok
  have h2 := bB_len e.nm
  have h3 := h.nl
  have h4 := uBytes_le e.ln
  rw [List.length_append]
  cases e.dir <;> simp <;> omega
theorem keys_lt {l : List Ent} (h : ∀ e ∈ l, Fine e) : (l.flatMap keyE).length ≤ 117 * l.length := by
  induction l with
  | nil => simp
  | cons e l ih =>
    have h1 := keyE_lt (h e (by simp))
    have h2 := ih (fun x hx => h x (by simp [hx]))
    rw [List.flatMap_cons, List.length_append, List.length_cons]
    omega
theorem range_cells {w : World} {b p : Nat} {e : Ent} (h : w.rangeAt b p (enV e)) (hk : EntOk e) : w.cell? ⟨b, p, none⟩ = some (.string (mkS e.nm)) ∧ w.cell? ⟨b, p + 1, none⟩ = some (.bool e.dir) ∧ w.cell? ⟨b, p + 66, none⟩ = some (.int .i64 e.fi) ∧ w.cell? ⟨b, p + 67, none⟩ = some (.int .i64 e.ln) ∧ (∀ k, k < 32 → w.cell? ⟨b, p + 2 + k, none⟩ = some (.int .u8 (e.key.getD k 0))) :=
  ⟨h 0 _ rfl, h 1 _ rfl, h 66 _ (enV_fi hk).1, h 67 _ (enV_fi hk).2, fun k hk' => by
    have h1 : k < e.key.length := by rw [hk.key.1]; exact hk'
    have := h (2 + k) (.int .u8 (e.key.getD k 0)) (enV_key e k _ (by rw [List.getElem?_map, List.getElem?_eq_getElem h1, List.getD_eq_getElem?_getD, List.getElem?_eq_getElem h1]; rfl))
    rw [← Nat.add_assoc] at this
    exact this⟩
set_option maxRecDepth 100000 in
set_option maxHeartbeats 4000000 in
theorem hashed_calls {w : World} {v : Value} {l : List Ent} (h : IsEn w v l) (hfn : ∀ e ∈ l, Fine e) (hl : l.length ≤ 2000) : Calls Tryd.prog 32 #[v] w fun e w' => ∃ u, e = .returned u ∧ Own8 w' w.heap.size u (keyL l) ∧ Below w.heap.size w w' := by
  obtain ⟨a, c, rfl⟩ := h.shape
  obtain ⟨n, hn⟩ : ∃ n, n = l.length := ⟨_, rfl⟩
  rw [← hn] at h hl ⊢
  have hnc := h.lenEq.2
  have HFN := hide hfn
  have HN := hide hn
  have HH := hide h
  have HER : Hid (keyL l = 1 :: l.flatMap keyE) := rfl
  clear h hn hfn
  have HB3 : Hid (Below w.heap.size w (w.alloc (.cells #[.int .u8 1] 5))) := lit_blw _ _
  have HO3 := hide (own8_lit w 1 (by decide) (Nat.le_refl _))
  go_enter Tryd.func32, Tryd.ntmps32
  go_wp2_with fail
  go_loopw [3, 4] (fun bv iv W => ∃ i : Nat, i ≤ n ∧ iv = .int .i64 (i : Int) ∧ Below w.heap.size w W ∧ Own8 W w.heap.size bv (1 :: (l.take i).flatMap keyE)) (fun _ i _ => n - (intOf i).toNat)
  case atStart => exact ⟨0, by omega, rfl, HB3.out, by simpa using HO3.out⟩
  case round =>
    clear HB3 HO3
    obtain ⟨i, hin, rfl, hbw, ho⟩ := hrel
    by_cases hlt : i < n
    · have hltI : (i : Int) < (n : Int) := by omega
      obtain ⟨b, o, rfl, hr⟩ := HH.out.spot (by omega)
      have hil : i < l.length := by rw [← HN.out]; exact hlt
      have HF := hide (en_get (P := Fine) HFN.out hil)
      have HR : Hid (∀ W, Below w.heap.size w W → W.rangeAt b (o + i * 68) (enV (l.getD i .nul))) := fun W hW => range_kept (hr i hlt) hW
      have HTF := hide (take_flat keyE hil)
      have hxl : (1 :: (l.take i).flatMap keyE).length ≤ 300000 := by
        have h1 := keys_lt (l := l.take i) (fun e he => HFN.out e (List.mem_of_mem_take he))
        rw [List.length_take] at h1
        rw [List.length_cons]
        omega
      have HEX : Hid (∀ xs : List Int, xs = 1 :: (l.take i).flatMap keyE → (((xs ++ bB (l.getD i .nul).nm) ++ [if (l.getD i .nul).dir then 1 else 0]) ++ (l.getD i .nul).key) ++ (if (l.getD i .nul).dir then [] else uBytes (l.getD i .nul).ln) = 1 :: (l.take (i + 1)).flatMap keyE) := fun xs hx => by
        rw [HTF.out, hx]
        unfold keyE headB
        simp
      have HBL := hide (bB_len (l.getD i .nul).nm)
      generalize l.getD i .nul = x at *
      generalize hxs : 1 :: (l.take i).flatMap keyE = xs at ho hxl
      have HX2 := hide (unhide HEX xs hxs.symm)
      have hB0 := hbw.size
      have HKC := hide (kind_calls x)
      have HKD : Hid (0 ≤ (if x.dir = true then (1 : Int) else 0) ∧ (if x.dir = true then (1 : Int) else 0) ≤ 255) := by show _ ∧ _; cases x.dir <;> decide
      have HKL := hide HF.out.ok.ok.key.1
      have HNL := hide HF.out.nl
      have hm0 := (range_cells (unhide HR wr hbw) HF.out.ok.ok).1
      generalize hkv : (if x.dir = true then (1 : Int) else 0) = kv at *
      clear hr hxs HTF HEX hkv
      go_wp2_with (first
        | (go_at_call 40; refine (text_calls HF.out.ok.ok.nm (by have := HNL.out; omega) wr).mono ?_; rintro e w6 ⟨v6, rfl, ho6, hb6⟩; have ho6' := ho.below hb6; have hB6 := Nat.le_trans hB0 hb6.size; clear hm0)
        | (at_builtin; refine wpList_appB rfl (.tmp 13) (.tmp 19) rfl rfl ho6' rfl ho6.isB (by have := HBL.out; have := HNL.out; omega) hB6 ?_; intro v7 w7 ho7 hg7; have hc7 := (Ch.of_below (B := w.heap.size) (T := U8) hb6).trans (ho6'.ch hg7); have hb7 := belowCh hbw hc7 hB0; have HR7 := hide (unhide HR w7 hb7); clear ho ho6 ho6' hg7 hb6 hc7)
        | (refine wpList_load_mid rfl 38 (.tmp 24) rfl b (o + i * 68) rfl (enV x) _ HR7.out Tryd.underlying38 rfl (infoEof HF.out.ok.ok) ?_)
        | (go_at_call 41; refine (unhide HKC w7).mono ?_; rintro e w8 ⟨rfl, hb8⟩; have ho8 := ho7.below hb8; have hb8' := hb7.trans (hb8.mono hb7.size); clear ho7)
        | (at_builtin; refine wpList_appB rfl (.tmp 21) (.tmp 27) rfl rfl (ho8.below (lit_blw _ _)) rfl (isB_one1 w8 kv HKD.out) (by simp; have := HBL.out; have := HNL.out; omega) (Nat.le_trans hb8'.size (lit_blw _ _).size) ?_; intro v9 w9 ho9 hg9; have hb9 := belowCh hb8' ((ch_lit _ _).trans ((ho8.below (lit_blw _ _)).ch hg9)) hb8'.size; have HL9 : Hid ((xs ++ bB x.nm ++ [kv]).length ≤ 300200) := (by have := HBL.out; have := HNL.out; show _ ≤ _; simp; omega); clear ho8 hg9 hb8 hb8' hb7 HR7))
      clear hbw hB0 hB6
      go_loopw [3, 5] (fun bv iv W => ∃ k : Nat, k ≤ 32 ∧ iv = .int .i64 (k : Int) ∧ Own8 W w.heap.size bv (xs ++ bB x.nm ++ [kv] ++ x.key.take k) ∧ Below w.heap.size w W) (fun _ i _ => 32 - (intOf i).toNat)
      case atStart => exact ⟨0, by omega, rfl, by simpa using ho9, hb9⟩
      case round =>
        clear ho9 hb9
        obtain ⟨k, hk32, rfl, hok, hbk⟩ := hrel
        have hcs := range_cells (unhide HR _ hbk) HF.out.ok.ok
        by_cases hk : k < 32
        · have hkI : (k : Int) < 32 := by omega
          have hmk := hcs.2.2.2.2 k hk
          have hkl : k < x.key.length := by rw [HKL.out]; exact hk
          have HTK := hide (take_one x.key hkl)
          have HBY : Hid (0 ≤ x.key.getD k 0 ∧ x.key.getD k 0 ≤ 255) := by
            show _ ∧ _
            rw [List.getD_eq_getElem?_getD, List.getElem?_eq_getElem hkl]
            exact HF.out.ok.ok.key.2 _ (List.getElem_mem hkl)
          generalize x.key.getD k 0 = y at *
          clear hcs hkl
          go_wp2_with (at_builtin; refine wpList_appB rfl (.tmp 33) (.tmp 41) rfl rfl (hok.below (lit_blw _ _)) rfl (isB_one1 wr y HBY.out) (by have := HL9.out; simp only [List.length_append, List.length_take, List.length_cons, List.length_nil] at *; omega) (Nat.le_trans hbk.size (lit_blw _ _).size) ?_; intro v11 w11 ho11 hg11)
          have hb11 := belowCh hbk ((ch_lit _ _).trans ((hok.below (lit_blw _ _)).ch hg11)) hbk.size
          rw [List.append_assoc, ← HTK.out] at ho11
          clear hok hg11
          go_roundw
          case rel => exact ⟨k + 1, by omega, by go_num, ho11, hb11⟩
          case measure => simp [intOf]; omega
        · have hkI : ¬ (k : Int) < 32 := by omega
          rw [List.take_of_length_le (by rw [HKL.out]; omega)] at hok
          have HLk : Hid ((xs ++ bB x.nm ++ [kv] ++ x.key).length ≤ 300300) := by have := HL9.out; have := HKL.out; show _ ≤ _; rw [List.length_append]; omega
          have hm1 := hcs.2.1
          have hm67 := hcs.2.2.2.1
          have HUL := hide (uBytes_le x.ln)
          clear hcs
          cases hdr : x.dir with
          | true =>
            rw [hdr] at hm1 HX2
            rw [if_pos rfl, List.append_nil] at HX2
            rw [HX2.out] at hok
            clear hdr
            go_wp2
            go_roundw
            case rel => exact ⟨i + 1, by omega, by go_num, hbk, hok⟩
            case measure => simp [intOf]; omega
          | false =>
            rw [hdr] at hm1 HX2
            rw [if_neg (by decide)] at HX2
            clear hdr
            go_wp2_with (first
              | (go_at_call 39; refine (rnumber_calls x.ln _ HF.out.ln.1 (by have := HF.out.ln.2; omega)).mono ?_; rintro e w12 ⟨v12, rfl, ho12, hb12⟩; have hoq := hok.below hb12)
              | (at_builtin; refine wpList_appB rfl (.tmp 49) (.tmp 56) rfl rfl hoq rfl ho12.isB (by have := HLk.out; have := HUL.out; omega) (Nat.le_trans hbk.size hb12.size) ?_; intro v13 w13 ho13 hg13))
            have hb13 := belowCh hbk ((Ch.of_below hb12).trans (hoq.ch hg13)) hbk.size
            rw [HX2.out] at ho13
            clear hok hoq ho12 hg13
            go_roundw
            case rel => exact ⟨i + 1, by omega, by go_num, hb13, ho13⟩
            case measure => simp [intOf]; omega
    · have hltI : ¬ (i : Int) < (n : Int) := by omega
      have HF : Hid (Own8 wr w.heap.size u3 (keyL l)) := by
        show Own8 _ _ _ _
        rw [HER.out]
        rw [List.take_of_length_le (by rw [← HN.out]; omega)] at ho
        exact ho
      clear ho
      go_wp2
      go_ret
      exact ⟨_, rfl, HF.out, hbw⟩
end Go.Proofs.YtpklbchbldipnabDoor
