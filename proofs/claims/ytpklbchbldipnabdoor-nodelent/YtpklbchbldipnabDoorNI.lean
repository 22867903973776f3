/- addHead, addNumber. Encode. -/
import Derived.Test.YtpklbchbldipnabDoorNG
import Derived.Test.YtpklbchbldipnabDoorNH
namespace Go.Proofs.YtpklbchbldipnabDoor
open Go.RowKit Go.Maps

theorem headB_bytes {e : Ent} (h : EnOk e) : Byt (headB e) := by
  unfold headB
  intro x hx
  rcases List.mem_append.1 hx with hx | hx
  · rcases List.mem_append.1 hx with hx | hx
    · unfold bB at hx
      rcases List.mem_append.1 hx with hx | hx
      · exact uBytes_bytes (by omega) (top9 (by have := h.nl; omega)) x hx
      · exact h.ok.nm x hx
    · cases e.dir <;> simp at hx <;> omega
  · exact h.ok.key.2 x hx
set_option maxRecDepth 100000 in
set_option maxHeartbeats 4000000 in
theorem addHead_calls {w : World} {B : Nat} {v : Value} {xs : List Int} {x : Ent} (ho : Own8 w B v xs) (hB : B ≤ w.heap.size) (hok : EnOk x) (hnl : x.nm.length ≤ 64) (hl : xs.length ≤ 100000000) :
    Calls Tryd.prog 29 #[v, .agg (enV x).toArray] w fun e w' => ∃ v', e = .returned v' ∧ Own8 w' B v' (xs ++ headB x) ∧ Ch B U8 w w' := by
  obtain ⟨av, nv, cv, rfl⟩ := ho.shape
  have hA := Arr.new w (enV x) 38
  have hb0 : Below w.heap.size w (w.alloc (.cells (enV x).toArray 38)) := (Below.refl _ _).alloc (Nat.le_refl _) _
  have hE := enAt hA hok.ok
  have m0 := hE.nm
  have m1 := hE.dir
  have HA : Hid (∀ W, Ch B U8 (w.alloc (.cells (enV x).toArray 38)) W → IsB W (.slice (some ⟨w.heap.size, 2, none⟩) 32 32) x.key) := fun W hc => (enAt (hA.ch hc u8_en) hok.ok).key
  have HQ : Hid (headB x = (bB x.nm ++ [if x.dir then 1 else 0]) ++ x.key) := rfl
  have HBL := hide (bB_len x.nm)
  have HKL := hide hok.ok.key.1
  have HNB : Hid (Byt x.nm) := hok.ok.nm
  have ho1 := ho.below hb0
  have HC0 : Hid (Ch B U8 w (w.alloc (.cells (enV x).toArray 38))) := Ch.of_below hb0
  have hs0 : B ≤ (w.alloc (.cells (enV x).toArray 38)).heap.size := Nat.le_trans hB hb0.size
  generalize (enV x).toArray = cs at *
  clear hE hA hok
  cases hdr : x.dir with
  | true =>
    rw [hdr] at m1 HQ
    clear hdr
    go_enter Tryd.func29, Tryd.ntmps29
    go_wp2_with (first
      | (refine wpList_conv rfl (.tmp 10) rfl rfl HNB.out (by omega) ?_; intro v1 w1 hv1 hb1; have hs1 := hb1.size)
      | (go_at_call 48; refine (bytes_calls hv1 (by omega)).mono ?_; rintro e w2 ⟨v2, rfl, ho2, hb2⟩; have hs2 := hb2.size; have ho2' := (ho1.below hb1).below hb2)
      | (at_builtin; refine wpList_appB rfl (.tmp 8) (.tmp 12) rfl rfl ho2' rfl (isB_owns ho2 (bB_bytes (by omega) HNB.out)) (by have := HBL.out; omega) (by omega) ?_; intro v3 w3 ho3 hg3; have HC3 := hide (((Ch.of_below (B := B) (T := U8) hb1).trans (Ch.of_below hb2)).trans (ho2'.ch hg3)); have hs3 := HC3.out.size; clear ho2 ho2' hg3 hb1 hb2 hv1)
      | (at_builtin; refine wpList_appB rfl (.tmp 14) (.tmp 16) rfl rfl (ho3.below (lit_blw _ _)) rfl (isB_one1 w3 1 (by decide)) (by simp; have := HBL.out; omega) (Nat.le_trans (Nat.le_trans hs0 hs3) (lit_blw _ _).size) ?_; intro v4 w4 ho4 hg4; have HC4 := hide (HC3.out.trans ((Ch.of_below (lit_blw _ _)).trans ((ho3.below (lit_blw _ _)).ch hg4))); have hs4 := HC4.out.size; clear ho3 hg4)
      | (at_builtin; refine wpList_appB rfl (.tmp 18) (.tmp 20) rfl rfl ho4 rfl (unhide HA w4 HC4.out) (by simp; have := HBL.out; have := HKL.out; omega) (Nat.le_trans hs0 hs4) ?_; intro v5 w5 ho5 hg5; have HC5 := hide (HC4.out.trans (ho4.ch hg5)); clear hg5))
    go_ret
    refine ⟨_, rfl, ?_, HC0.out.trans HC5.out⟩
    rw [HQ.out]
    simpa using ho5
  | false =>
    rw [hdr] at m1 HQ
    clear hdr
    go_enter Tryd.func29, Tryd.ntmps29
    go_wp2_with (first
      | (refine wpList_conv rfl (.tmp 10) rfl rfl HNB.out (by omega) ?_; intro v1 w1 hv1 hb1; have hs1 := hb1.size)
      | (go_at_call 48; refine (bytes_calls hv1 (by omega)).mono ?_; rintro e w2 ⟨v2, rfl, ho2, hb2⟩; have hs2 := hb2.size; have ho2' := (ho1.below hb1).below hb2)
      | (at_builtin; refine wpList_appB rfl (.tmp 8) (.tmp 12) rfl rfl ho2' rfl (isB_owns ho2 (bB_bytes (by omega) HNB.out)) (by have := HBL.out; omega) (by omega) ?_; intro v3 w3 ho3 hg3; have HC3 := hide (((Ch.of_below (B := B) (T := U8) hb1).trans (Ch.of_below hb2)).trans (ho2'.ch hg3)); have hs3 := HC3.out.size; clear ho2 ho2' hg3 hb1 hb2 hv1)
      | (at_builtin; refine wpList_appB rfl (.tmp 14) (.tmp 16) rfl rfl (ho3.below (lit_blw _ _)) rfl (isB_one1 w3 0 (by decide)) (by simp; have := HBL.out; omega) (Nat.le_trans (Nat.le_trans hs0 hs3) (lit_blw _ _).size) ?_; intro v4 w4 ho4 hg4; have HC4 := hide (HC3.out.trans ((Ch.of_below (lit_blw _ _)).trans ((ho3.below (lit_blw _ _)).ch hg4))); have hs4 := HC4.out.size; clear ho3 hg4)
      | (at_builtin; refine wpList_appB rfl (.tmp 18) (.tmp 20) rfl rfl ho4 rfl (unhide HA w4 HC4.out) (by simp; have := HBL.out; have := HKL.out; omega) (Nat.le_trans hs0 hs4) ?_; intro v5 w5 ho5 hg5; have HC5 := hide (HC4.out.trans (ho4.ch hg5)); clear hg5))
    go_ret
    refine ⟨_, rfl, ?_, HC0.out.trans HC5.out⟩
    rw [HQ.out]
    simpa using ho5
theorem Own8.shape' {w : World} {B : Nat} {v : Value} {xs : List Int} (h : Own8 w B v xs) : ∃ a c, v = .slice a xs.length c := by
  obtain ⟨a, n, c, rfl⟩ := h.shape
  exact ⟨a, c, by rw [h.isB.lenEq]⟩
set_option maxRecDepth 100000 in
set_option maxHeartbeats 4000000 in
theorem addNumber_calls {w : World} {B : Nat} {v : Value} {xs : List Int} {k : Int} (ho : Own8 w B v xs) (hB : B ≤ w.heap.size) (h0 : 0 ≤ k) (h1 : k < 4294967296) (hl : xs.length ≤ 100000000) :
    Calls Tryd.prog 30 #[v, .int .i64 k] w fun e w' => ∃ v', e = .returned v' ∧ Own8 w' B v' (xs ++ fB k 4) ∧ Ch B U8 w w' := by
  obtain ⟨av, nv, cv, rfl⟩ := ho.shape
  have HF : Hid (Calls Tryd.prog 49 #[.int .u64 k, .int .i64 4] w fun e w' => ∃ v, e = .returned (.tuple #[v, .int .i64 0]) ∧ w'.ownsRow w.heap.size 5 1 v 4 ((fB k 4).map (Value.int .u8)) ∧ Below w.heap.size w w') :=
    fixed_in k 4 w h0 (by decide) (by decide) (by
      have : k / 2 ^ (8 * 4) = 0 := by
        rw [show (2 : Int) ^ (8 * 4) = 4294967296 by decide]
        omega
      rw [this]; rfl)
  have HFL := hide (fB_len k 4)
  go_enter Tryd.func30, Tryd.ntmps30
  go_wp2_with (first
    | (go_at_call 49; refine (unhide HF).mono ?_; rintro e w2 ⟨v2, rfl, ho2, hb2⟩; have hs2 := hb2.size; have ho2' := ho.below hb2)
    | (at_builtin; refine wpList_appB rfl (.tmp 13) (.tmp 14) rfl rfl ho2' rfl (isB_owns ho2 (fB_bytes _ _)) (by have := HFL.out; omega) (by omega) ?_; intro v3 w3 ho3 hg3; have HC3 := hide ((Ch.of_below (B := B) (T := U8) hb2).trans (ho2'.ch hg3))))
  go_ret
  exact ⟨_, rfl, ho3, HC3.out⟩
end Go.Proofs.YtpklbchbldipnabDoor

namespace Go.Proofs.YtpklbchbldipnabDoor
open Go.RowKit Go.Maps

theorem chk1_ok {nb : List Int → Bool} {ah : Option (List Int)} {e : Ent} (h : chk1 nb ah e = 0) : nb e.nm = true ∧ sndE e = true ∧ late ah e.nm = false := by
  unfold chk1 at h
  by_cases h1 : nb e.nm = false
  · rw [if_pos h1] at h; cases h
  rw [if_neg h1] at h
  by_cases h2 : late ah e.nm = true
  · rw [if_pos h2] at h; cases h
  rw [if_neg h2] at h
  by_cases h3 : sndE e = false
  · rw [if_pos h3] at h; cases h
  exact ⟨by simpa using h1, by simpa using h3, by simpa using h2⟩
theorem chkF_mem {nb : List Int → Bool} : ∀ {l : List Ent} {ah : Option (List Int)}, chkF nb ah l = 0 → ∀ e ∈ l, nb e.nm = true ∧ sndE e = true
  | [], _, _ => by simp
  | x :: l, ah, h => by
    have h1 : chk1 nb ah x = 0 := by
      by_cases h' : chk1 nb ah x = 0
      · exact h'
      · rw [chkF, if_pos h'] at h; exact h
    rw [chkF, if_neg (by rw [h1]; simp)] at h
    intro e he
    rcases List.mem_cons.1 he with rfl | he
    · exact ⟨(chk1_ok h1).1, (chk1_ok h1).2.1⟩
    · exact chkF_mem h e he
theorem chkL_le {nb : List Int → Bool} {l : List Ent} (h : chkL nb l = 0) : l.length ≤ 1024 ∧ chkF nb none l = 0 := by
  unfold chkL at h
  by_cases h1 : 1024 < l.length
  · rw [if_pos h1] at h; cases h
  · rw [if_neg h1] at h
    exact ⟨by omega, h⟩
/-- An entry that Check lets by. -/
structure Fine (e : Ent) : Prop where
  ok : EnOk e
  nl : e.nm.length ≤ 64
  fi : 0 ≤ e.fi ∧ e.fi ≤ 65535
  ln : 0 ≤ e.ln ∧ e.ln ≤ 1048576
theorem fine_of {e : Ent} (h : EnOk e) (h1 : nbL e.nm = true) (h2 : sndE e = true) : Fine e := by
  unfold sndE at h2
  have h3 := of_decide_eq_true (Bool.and_eq_true_iff.1 h2).1
  obtain ⟨a, b, c, d⟩ := h3
  exact ⟨h, nbL_le _ h1, ⟨a, b⟩, ⟨c, by split at d <;> omega⟩⟩
theorem fine_all {l : List Ent} (h : ∀ e ∈ l, EnOk e) (hc : chkL nbL l = 0) : ∀ e ∈ l, Fine e := fun e he => fine_of (h e he) (chkF_mem (chkL_le hc).2 e he).1 (chkF_mem (chkL_le hc).2 e he).2
theorem entB_lt {e : Ent} (h : Fine e) : (entB e).length ≤ 147 := entB_le h.ok.ok h.nl
theorem flat_lt {l : List Ent} (h : ∀ e ∈ l, Fine e) : (l.flatMap entB).length ≤ 147 * l.length := by
  induction l with
  | nil => simp
  | cons e l ih =>
    have h1 := entB_lt (h e (by simp))
    have h2 := ih (fun x hx => h x (by simp [hx]))
    rw [List.flatMap_cons, List.length_append, List.length_cons]
    omega
theorem take_flat {α : Type} (f : Ent → List α) {l : List Ent} {i : Nat} (h : i < l.length) : (l.take (i + 1)).flatMap f = (l.take i).flatMap f ++ f (l.getD i .nul) := by
  rw [List.take_succ_eq_append_getElem h, List.flatMap_append, List.getD_eq_getElem?_getD, List.getElem?_eq_getElem h]
  simp
/-- What Encode tells. -/
def encR (l : List Ent) : List Int := if chkL nbL l = 0 then encL l else []
theorem own8_lit (w : World) (x : Int) (h : 0 ≤ x ∧ x ≤ 255) {B : Nat} (hB : B ≤ w.heap.size) : Own8 (w.alloc (.cells #[.int .u8 x] 5)) B (.slice (some ⟨w.heap.size, 0, none⟩) 1 1) [x] :=
  ⟨⟨rfl, Or.inr ⟨w.heap.size, 1, #[.int .u8 x], rfl, hB, heap_alloc_new w _, Nat.le_refl _, by unfold maxLen; omega, rfl, rfl⟩⟩, by simpa using h⟩
theorem ch_lit {B : Nat} {T : TypeId → Prop} (w : World) (o : Obj) : Ch B T w (w.alloc o) := Ch.of_below (lit_blw w o)
set_option maxRecDepth 100000 in
set_option maxHeartbeats 4000000 in
theorem encode_calls {w : World} {v : Value} {l : List Ent} (h : IsEn w v l) : Calls Tryd.prog 8 #[v] w fun e w' => ∃ u, e = .returned (.tuple #[u, .int .i64 (chkL nbL l)]) ∧ Own8 w' w.heap.size u (encR l) ∧ Below w.heap.size w w' := by
  obtain ⟨a, c, rfl⟩ := h.shape
  have HCK := hide (check_calls h)
  obtain ⟨n, hn⟩ : ∃ n, n = l.length := ⟨_, rfl⟩
  rw [← hn] at h HCK ⊢
  have hnc := h.lenEq.2
  by_cases hq : chkL nbL l = 0
  · have HER : Hid (encR l = (1 :: uBytes (n : Int)) ++ l.flatMap entB) := by show _ = _; unfold encR; rw [if_pos hq, hn]; rfl
    have HFN := hide (fine_all h.ok hq)
    have hn1 : n ≤ 1024 := by have := (chkL_le hq).1; omega
    rw [hq] at HCK ⊢
    have HN := hide hn
    have HH := hide h
    have HUL := hide (uBytes_le (n : Int))
    have HUB : Hid (Byt (uBytes (n : Int))) := uBytes_bytes (by omega) (top9 (by omega))
    clear h hn hq
    go_enter Tryd.func8, Tryd.ntmps8
    go_wp2_with (first
      | (go_at_call 16; refine (unhide HCK).mono ?_; rintro e w1 ⟨rfl, hb1⟩)
      | (go_at_call 28; refine (uint_calls (n : Int) _ (by omega) (top9 (by omega))).mono ?_; rintro e w2 ⟨v2, rfl, ho2, hb2⟩)
      | (at_builtin; refine wpList_appB rfl (.tmp 13) (.tmp 17) rfl rfl ((own8_lit w1 1 (by decide) hb1.size).below hb2) rfl (isB_owns ho2 HUB.out) (by simp; have := HUL.out; omega) (Nat.le_trans (Nat.le_trans hb1.size (lit_blw _ _).size) hb2.size) ?_; intro v3 w3 ho3 hg3))
    have HB3 : Hid (Below w.heap.size w w3) := belowCh hb1 (((ch_lit _ _).trans (Ch.of_below hb2)).trans (((own8_lit w1 1 (by decide) hb1.size).below hb2).ch hg3)) hb1.size
    clear ho2 hg3 hb2 hb1
    go_loopw [5, 21] (fun bv iv W => ∃ i : Nat, i ≤ n ∧ iv = .int .i64 (i : Int) ∧ Below w.heap.size w W ∧ Own8 W w.heap.size bv ((1 :: uBytes (n : Int)) ++ (l.take i).flatMap entB)) (fun _ i _ => n - (intOf i).toNat)
    case atStart => exact ⟨0, by omega, rfl, HB3.out, by simpa using ho3⟩
    case round =>
      clear ho3 HB3
      obtain ⟨i, hin, rfl, hbw, ho⟩ := hrel
      by_cases hlt : i < n
      · have hltI : (i : Int) < (n : Int) := by omega
        have hE := HH.out.below hbw
        obtain ⟨b, o, rfl, hr⟩ := hE.spot (by omega)
        have hil : i < l.length := by rw [← HN.out]; exact hlt
        have HR := hide (hr i hlt)
        have HF := hide (en_get (P := Fine) HFN.out hil)
        have HTF := hide (take_flat entB hil)
        have hxl : ((1 :: uBytes (n : Int)) ++ (l.take i).flatMap entB).length ≤ 200000 := by
          have h1 := flat_lt (l := l.take i) (fun e he => HFN.out e (List.mem_of_mem_take he))
          have h2 := HUL.out
          rw [List.length_take] at h1
          rw [List.length_append, List.length_cons]
          omega
        have HEX : Hid (∀ xs : List Int, xs = (1 :: uBytes (n : Int)) ++ (l.take i).flatMap entB → (((xs ++ headB (l.getD i .nul)) ++ (l.getD i .nul).hash) ++ fB (l.getD i .nul).fi 4) ++ fB (l.getD i .nul).ln 4 = (1 :: uBytes (n : Int)) ++ (l.take (i + 1)).flatMap entB) := fun xs hx => by
          rw [HTF.out, hx]
          unfold entB
          simp
        have HHL := hide (headB_len HF.out.ok.ok)
        have HBL := hide (bB_len (l.getD i .nul).nm)
        generalize l.getD i .nul = x at *
        generalize hxs : (1 :: uBytes (n : Int)) ++ (l.take i).flatMap entB = xs at ho hxl
        have HX2 := hide (unhide HEX xs hxs.symm)
        have hB0 := hbw.size
        clear hr hE hxs HTF HEX
        go_wp2_with (first
          | (refine wpList_load_mid rfl 38 (.tmp 23) rfl b (o + i * 68) rfl (enV x) _ HR.out Tryd.underlying38 rfl (infoEof HF.out.ok.ok) ?_)
          | (refine wpList_allocZ rfl 38 rfl infoEn ?_)
          | (refine wpList_storeAll rfl (.tmp 7) (.tmp 24) 38 rfl rfl rfl (Arr.new wr z68 38) (infoEof HF.out.ok.ok) (by rw [z68_len, enV_len HF.out.ok.ok]) (enV_one x) ?_; intro w5 hA5 hw5; have hb5 : Below wr.heap.size wr w5 := hw5.below _ _ (lit_blw _ _) (Nat.le_refl _); have ho5 := ho.below hb5; have hB5 := Nat.le_trans hB0 hb5.size; clear hw5 ho)
          | (refine wpList_load_mid rfl 38 (.tmp 7) rfl wr.heap.size 0 rfl (enV x) _ hA5.range Tryd.underlying38 rfl (infoEof HF.out.ok.ok) ?_)
          | (go_at_call 29; refine (addHead_calls ho5 hB5 HF.out.ok HF.out.nl (by omega)).mono ?_; rintro e w6 ⟨v6, rfl, ho6, hc6⟩; have hA6 := hA5.ch hc6 u8_en; have hE6 := enAt hA6 HF.out.ok.ok; have hB6 := Nat.le_trans hB5 hc6.size; clear ho5)
          | (at_builtin; refine wpList_appB rfl (.tmp 28) (.tmp 31) rfl rfl ho6 rfl hE6.hash (by have := HHL.out; have := HBL.out; have := HF.out.nl; have := HF.out.ok.ok.hash.1; simp; omega) hB6 ?_; intro v7 w7 ho7 hg7; have hc7 := ho6.ch hg7; have hA7 := hA6.ch hc7 u8_en; have hE7 := enAt hA7 HF.out.ok.ok; have hB7 := Nat.le_trans hB6 hc7.size; have m66 := hE7.fi; have HL7 : Hid ((xs ++ headB x ++ x.hash).length ≤ 300000) := (by have := HHL.out; have := HBL.out; have := HF.out.nl; have := HF.out.ok.ok.hash.1; show _ ≤ _; simp; omega); clear ho6 hA6 hg7 hE6 hE7))
        refine (addNumber_calls ho7 hB7 HF.out.fi.1 (by have := HF.out.fi.2; omega) (by have := HL7.out; omega)).mono ?_
        rintro e w8 ⟨v8, rfl, ho8, hc8⟩
        have hA8 := hA7.ch hc8 u8_en
        have m67 := (enAt hA8 HF.out.ok.ok).ln
        have hB8 := Nat.le_trans hB7 hc8.size
        clear m66 ho7 hA7
        go_wp2_with fail
        refine (addNumber_calls ho8 hB8 HF.out.ln.1 (by have := HF.out.ln.2; omega) (by have := HL7.out; have := fB_len x.fi 4; simp at *; omega)).mono ?_
        rintro e w9 ⟨v9, rfl, ho9, hc9⟩
        have hb9 : Below w.heap.size w w9 := belowCh (belowCh (belowCh (belowCh (hbw.trans (hb5.mono hB0)) hc6 hB5) hc7 hB6) hc8 hB7) hc9 hB8
        clear m67 ho8 hA8 hA5
        go_wp2
        go_roundw
        case rel => exact ⟨i + 1, by omega, by go_num, hb9, by rw [← HX2.out]; exact ho9⟩
        case measure => simp [intOf]; omega
      · have hltI : ¬ (i : Int) < (n : Int) := by omega
        have HF : Hid (Own8 wr w.heap.size u5 (encR l)) := by
          show Own8 _ _ _ _
          rw [HER.out]
          rw [List.take_of_length_le (by rw [← HN.out]; omega)] at ho
          exact ho
        clear ho
        go_wp2
        go_ret2
        exact ⟨_, rfl, HF.out, hbw⟩
  · have hq0 : (chkL nbL l != 0) = true := by simpa using hq
    have HER : Hid (encR l = []) := by show _ = _; unfold encR; rw [if_neg hq]
    generalize chkL nbL l = q at *
    clear h hn hq
    go_enter Tryd.func8, Tryd.ntmps8
    go_wp2_with (go_at_call 16; refine (unhide HCK).mono ?_; rintro e w1 ⟨rfl, hb1⟩)
    go_ret2
    exact ⟨_, rfl, by rw [HER.out]; exact Own8.nil _ _, hb1⟩
end Go.Proofs.YtpklbchbldipnabDoor
