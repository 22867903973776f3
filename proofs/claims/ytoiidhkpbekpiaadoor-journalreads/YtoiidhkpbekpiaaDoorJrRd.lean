/- Summed; what JournalReads answers. -/
import Derived.Test.YtoiidhkpbekpiaaDoorJrTo
namespace Go.Proofs.YtoiidhkpbekpiaaDoor
open Go.RowKit Go.Maps

theorem decR_ok {b : List Int} (hb : By8 b) : (decR b).Ok := by
  cases h : decO b with
  | none => rw [(decR_none h).1]; exact JR.nul_ok
  | some r => rw [(decR_some h).1]; exact dec_ok hb h
theorem jsum_in {ys : List Int} (hb : By8 ys) : 0 ≤ sumOf [ys] ∧ sumOf [ys] < 4294967296 := by
  have h1 : crcAll 4294967295 [ys] < 2 ^ 32 := crcAll_lt (by decide) (fun zs hzs => by rw [List.mem_singleton.1 hzs]; exact hb)
  have h2 := Nat.xor_lt_two_pow (n := 32) (x := 4294967295) (by decide) h1
  unfold sumOf
  generalize 4294967295 ^^^ crcAll 4294967295 [ys] = z at h2 ⊢
  omega
set_option maxRecDepth 100000 in
set_option maxHeartbeats 4000000 in
/-- Summed, of a text of 512 bytes: some text of 512 bytes. -/
theorem summed_calls {w : World} {a : Option Addr} {cap : Nat} {xs : List Int} (h : IsB w (.slice a 512 cap) xs) :
    Calls Tryd.prog 16 #[.slice a 512 cap] w fun e w' => ∃ u ys, e = .returned u ∧ Own8 w' w.heap.size u ys ∧ ys.length = 512 ∧ Below w.heap.size w w' := by
  have hlx : xs.length = 512 := by have := h.lenEq; omega
  have hi := h.cut (k := 508) (by decide)
  have hr := h.room
  obtain ⟨ad, had⟩ : ∃ ad, a = some ad := by
    obtain ⟨_, a', cp', hv, _, _, _, hc⟩ := h
    obtain ⟨b, off, ha, _⟩ := hc (by omega)
    injection hv with e1
    exact ⟨_, e1.trans ha⟩
  subst had
  have hkc : (508 : Int) ≤ (cap : Int) := by omega
  have HI := hide hi
  have hln : ([] : List Int).length + (xs.take 508).length ≤ 140737488355328 := by rw [List.length_take, hlx]; decide
  have hlt : (xs.take 508).length = 508 := by rw [List.length_take, hlx]; decide
  have HN := hide (Own8.nil w w.heap.size)
  have HL := hide hlt
  generalize xs.take 508 = ys at *
  clear h hi hlt
  go_enter Tryd.func16, Tryd.ntmps16
  go_wp2_with (first
    | (at_builtin; refine wpList_appB rfl (.const (.slice none 0 0)) (.tmp 5) rfl rfl HN.out rfl HI.out hln (Nat.le_refl _) ?_; intro v1 w1 ho1 hg1
       have hE1 : E8 w w1 w.heap.size v1 ys := ⟨ho1, hg1.size, (Below.refl _ _).grown hg1 (Nat.le_refl _) (fun b hb => by cases hb)⟩
       obtain ⟨a1, n1, c1, rfl⟩ := ho1.shape
       have HE1 := hide hE1
       clear ho1 hg1 hE1)
    | fail)
  have hsm := jsum_in (isB_by HE1.out.1.isB)
  have HCR := hide (rcrc_calls HE1.out.1.isB)
  have hws : IntKind.i64.wrap (sumOf [ys]) = sumOf [ys] := IntWalk.i64_in _ (by omega)
  generalize sumOf [ys] = sm at *
  obtain ⟨hs0, hs1⟩ := hsm
  go_wp2_with fail
  refine (unhide HCR).mono ?_
  rintro e w4 ⟨rfl, hw4⟩
  obtain rfl := hw4.symm
  clear hw4 HCR
  go_wp2_with fail
  refine (rfixE (n := 4) HE1.out hs0 (by omega) (by decide) (by decide) (by have := HL.out; omega)).mono ?_
  rintro e w5 ⟨v5, rfl, hE5⟩
  obtain ⟨a5, n5, c5, rfl⟩ := hE5.1.shape
  have HE5 := hide hE5
  clear hE5 HE1
  go_wp2
  go_ret
  exact ⟨_, _, rfl, HE5.out.1, (by rw [List.length_append, HL.out, fB_len]), HE5.out.2.2⟩
set_option maxRecDepth 100000 in
set_option maxHeartbeats 16000000 in
theorem journalReads_walk {w : World} {a : Option Addr} {n cap : Nat} {xs : List Int} (sm : Bool) (h : IsB w (.slice a n cap) xs) (ht : Tab w) :
    Calls Tryd.prog 4 #[.slice a n cap, .bool sm] w fun e w' => e = .returned (.bool true) ∧ Below w.heap.size w w' := by
  have HT : Hid (∀ W, Below w.heap.size w W → Tab W) := hide (fun W hW => ht.below hW)
  have HTO := hide (jtold_calls ht)
  have HX := hide h
  have HJD : Hid (∀ W x b, IsB W x b → Tab W → Calls Tryd.prog 18 #[x] W fun e w' => ∃ u, e = .returned (.tuple #[.agg (jrV (decR b) u).toArray, .int .i64 (decE b)]) ∧ OwnJ w' W.heap.size u (decR b).rs ∧ Below W.heap.size W w') := hide (fun W x b h1 h2 => jdec_calls h1 h2)
  have HRD : Hid (∀ W x b, IsB W x b → Calls Tryd.prog 19 #[x] W fun e w' => ∃ u, e = .returned (.tuple #[.agg (jrV (decR b) u).toArray, .bool (decO b).isSome]) ∧ OwnJ w' W.heap.size u (decR b).rs ∧ Below W.heap.size W w') := hide (fun W x b h1 => rdec_calls h1)
  clear h ht
  go_enter Tryd.func4, Tryd.ntmps4
  go_wp2_with fail
  refine (unhide HTO).mono ?_
  rintro e w1 ⟨rfl, hb1⟩
  have HB1 := hide hb1
  have HX1 := hide (HX.out.below hb1)
  clear HX HTO hb1
  have HCU := hide (cut_calls HX1.out 700 (by decide))
  go_wp2_with fail
  refine (unhide HCU).mono ?_
  rintro e w2 ⟨⟨m, rfl, hm, hIm⟩, hw2⟩
  obtain rfl := hw2.symm
  have hlm : (xs.take 700).length ≤ 700 := by rw [List.length_take]; omega
  have HM := hide hIm
  clear hw2 hIm HCU HX1 hm
  generalize xs.take 700 = ys at *
  have hln : ([] : List Int).length + ys.length ≤ 140737488355328 := by simp; omega
  have HN := hide (Own8.nil w1 w1.heap.size)
  cases sm with
  | false =>
    go_wp2_with (first
      | (at_builtin; refine wpList_appB rfl (.const (.slice none 0 0)) (.tmp 13) rfl rfl HN.out rfl HM.out hln (Nat.le_refl _) ?_; intro v3 w3 ho3 hg3
         have hb3 : Below w1.heap.size w1 w3 := (Below.refl _ _).grown hg3 (Nat.le_refl _) (fun b hb => by cases hb)
         have HB3 := hide (below_then HB1.out hb3)
         obtain ⟨a3, n3, c3, rfl⟩ := ho3.shape
         have HI3 : Hid (IsB w3 (.slice a3 n3 c3) ys) := hide ho3.isB
         have HL3 := hide hlm
         clear ho3 hg3 hb3 HM HN hln HB1 hlm)
      | fail)
    refine (laid_calls HI3.out (by have := HL3.out; omega)).mono ?_
    rintro e w5 ⟨g, c, rfl, hlaid, hb5⟩
    have HLD := hide hlaid
    have HI5 := hide (HI3.out.below hb5)
    have HB5 := hide (below_then HB3.out hb5)
    have HNL : Hid (n3 ≤ 140737488350000) := hide (by have h1 := HI3.out.lenEq; have h2 := HL3.out; omega)
    clear hlaid hb5 HI3 HB3 HL3
    go_wp2_with fail
    refine (unhide HJD _ _ _ HLD.out.isB (unhide HT _ HB5.out)).mono ?_
    rintro e w6 ⟨u6, rfl, ho6, hb6⟩
    have HOK := hide (decR_ok (isB_by HI5.out))
    obtain ⟨ua6, uc6, hus6⟩ := ho6.shape
    subst hus6
    have hA6 := Arr.new w6 z34R 26
    have hba6 := jalloc_below w6 (.cells z34R.toArray 26)
    have hinf6 := fun u => infoRof HOK.out.len u
    have hlen6 := fun u => (show z34R.length = (jrV (decR ys) u).length by rw [jrV_len HOK.out.len]; decide)
    have HST6 : Hid (∀ w7, (w6.alloc (.cells z34R.toArray 26)).grownBy w7 (some w6.heap.size) → Below w.heap.size w w7 ∧ IsB w7 (.slice a3 n3 c3) ys ∧ IsLaid w7 w3.heap.size g n3 c ys ∧ IsJ w7 (.slice ua6 (decR ys).rs.length uc6) (decR ys).rs) := hide (fun w7 hg => by
      have hh : Below w6.heap.size w6 w7 := jbelow_grown hba6 hg hba6.size (Nat.le_refl _)
      exact ⟨below_then (below_then HB5.out hb6) hh, (HI5.out.below hb6).below hh, (HLD.out.below hb6).below hh, ho6.isJ.below hh⟩)
    clear ho6 hb6 hba6 HB5 HI5 HLD
    go_wp2_with (first
      | (refine wpList_allocJ rfl 26 rfl infoR ?_)
      | (refine wpList_storeJ rfl (.tmp 6) (.tmp 28) 26 rfl rfl rfl hA6 (hinf6 _) (hlen6 _) (jrV_one (decR ys) rfl) ?_; intro w7 hA7 hg7
         have HF7 := hide (unhide HST6 w7 hg7)
         have HA7 := hide hA7
         clear hA7 hg7 HST6 hA6)
      | fail)
    refine (unhide HRD _ _ _ HF7.out.2.1).mono ?_
    rintro e w8 ⟨u8, rfl, ho8, hb8⟩
    obtain ⟨ua8, uc8, hus8⟩ := ho8.shape
    subst hus8
    have hA8 := Arr.new w8 z34R 26
    have hba8 := jalloc_below w8 (.cells z34R.toArray 26)
    have HST8 : Hid (∀ w9, (w8.alloc (.cells z34R.toArray 26)).grownBy w9 (some w8.heap.size) → Below w7.heap.size w7 w9 ∧ IsJ w9 (.slice ua8 (decR ys).rs.length uc8) (decR ys).rs) := hide (fun w9 hg => by
      have hh : Below w8.heap.size w8 w9 := jbelow_grown hba8 hg hba8.size (Nat.le_refl _)
      exact ⟨below_then hb8 hh, ho8.isJ.below hh⟩)
    clear ho8 hb8 hba8
    go_wp2_with (first
      | (refine wpList_allocJ rfl 26 rfl infoR ?_)
      | (refine wpList_storeJ rfl (.tmp 8) (.tmp 33) 26 rfl rfl rfl hA8 (hinf6 _) (hlen6 _) (jrV_one (decR ys) rfl) ?_; intro w9 hA9 hg9
         have HF9 := hide (unhide HST8 w9 hg9)
         have HA9 := hide hA9
         clear hA9 hg9 HST8 hA8)
      | fail)
    have hb9 := HF9.out.1
    refine (intact_calls (HF7.out.2.2.1.below hb9) (HF7.out.2.1.below hb9) HNL.out).mono ?_
    rintro e wa ⟨rfl, hwa⟩
    have hba := below_same hwa
    have hra : wa.rangeAt w6.heap.size 0 (jrV (decR ys) (.slice ua6 (decR ys).rs.length uc6)) := Arr.rangeJ ((HA7.out.below hb9).below hba)
    have hrb : wa.rangeAt w8.heap.size 0 (jrV (decR ys) (.slice ua8 (decR ys).rs.length uc8)) := Arr.rangeJ (HA9.out.below hba)
    have HSR := hide (samerec_calls HOK.out ((HF7.out.2.2.2.below hb9).below hba) (HF9.out.2.below hba))
    have HBA := hide (below_then (below_then HF7.out.1 hb9) hba)
    have HDC : Hid ((decO ys).isSome = true ∧ decE ys = 0 ∨ (decO ys).isSome = false ∧ decE ys = 61) := hide (by
      cases hd : decO ys with
      | none => exact Or.inr ⟨rfl, (decR_none hd).2⟩
      | some r => exact Or.inl ⟨rfl, (decR_some hd).2⟩)
    generalize decE ys = de at *
    generalize (decO ys).isSome = ds at *
    have hi6 := hinf6 (.slice ua6 (decR ys).rs.length uc6)
    have hi8 := hinf6 (.slice ua8 (decR ys).rs.length uc8)
    generalize jrV (decR ys) (.slice ua6 (decR ys).rs.length uc6) = RA at *
    generalize jrV (decR ys) (.slice ua8 (decR ys).rs.length uc8) = RB at *
    clear hwa hba hb9 HA7 HA9 HF7 HF9 HOK hinf6 hlen6 HNL
    go_wp2_with (first
      | (refine wpList_loadJ (by rfl) 26 (.tmp 6) rfl _ 0 rfl RA _ hra Tryd.underlying26 rfl hi6 ?_)
      | (refine wpList_loadJ (by rfl) 26 (.tmp 8) rfl _ 0 rfl RB _ hrb Tryd.underlying26 rfl hi8 ?_)
      | fail)
    refine (unhide HSR).mono ?_
    rintro e wb ⟨rfl, hbb⟩
    have HBB := hide (below_then HBA.out hbb)
    clear hbb HBA HSR hra hrb hi6 hi8
    rcases HDC.out with ⟨h1, h2⟩ | ⟨h1, h2⟩
    · subst h1 h2
      go_wp2
      go_ret
      exact ⟨rfl, HBB.out⟩
    · subst h1 h2
      go_wp2
      go_ret
      exact ⟨rfl, HBB.out⟩
  | true =>
    by_cases h5 : ys.length = 512
    · have h6 : ys.length ≤ 700 := hlm
      go_wp2_with (first
        | (at_builtin; refine wpList_appB rfl (.const (.slice none 0 0)) (.tmp 13) rfl rfl HN.out rfl HM.out hln (Nat.le_refl _) ?_; intro v3 w3 ho3 hg3
           have hb3 : Below w1.heap.size w1 w3 := (Below.refl _ _).grown hg3 (Nat.le_refl _) (fun b hb => by cases hb)
           have HB3 := hide (below_then HB1.out hb3)
           obtain ⟨a3, n3, c3, rfl⟩ := ho3.shape
           have HI3 : Hid (IsB w3 (.slice a3 n3 c3) ys) := hide ho3.isB
           have HL3 := hide hlm
           obtain rfl : n3 = 512 := by have := HI3.out.lenEq; omega
           clear ho3 hg3 hb3 HM HN hln HB1 hlm)
        | fail)
      have HSM := hide (summed_calls HI3.out)
      refine (unhide HSM).mono ?_
      rintro e w4 ⟨u4, zs, rfl, ho4, hl4, hb4⟩
      obtain ⟨a4, n4, c4, rfl⟩ := ho4.shape
      have HI4 := hide ho4.isB
      have HB4 := hide (below_then HB3.out hb4)
      have HL4 : Hid (zs.length ≤ 700) := hide (by omega)
      clear ho4 hl4 hb4 HSM HI3 HB3 HL3
      go_wp2_with fail
      refine (laid_calls HI4.out (by have := HL4.out; omega)).mono ?_
      rintro e w5 ⟨g, c, rfl, hlaid, hb5⟩
      have HLD := hide hlaid
      have HI5 := hide (HI4.out.below hb5)
      have HB5 := hide (below_then HB4.out hb5)
      have HNL : Hid (n4 ≤ 140737488350000) := hide (by have h1 := HI4.out.lenEq; have h2 := HL4.out; omega)
      clear hlaid hb5 HI4 HB4 HL4
      go_wp2_with fail
      refine (unhide HJD _ _ _ HLD.out.isB (unhide HT _ HB5.out)).mono ?_
      rintro e w6 ⟨u6, rfl, ho6, hb6⟩
      have HOK := hide (decR_ok (isB_by HI5.out))
      obtain ⟨ua6, uc6, hus6⟩ := ho6.shape
      subst hus6
      have hA6 := Arr.new w6 z34R 26
      have hba6 := jalloc_below w6 (.cells z34R.toArray 26)
      have hinf6 := fun u => infoRof HOK.out.len u
      have hlen6 := fun u => (show z34R.length = (jrV (decR zs) u).length by rw [jrV_len HOK.out.len]; decide)
      have HST6 : Hid (∀ w7, (w6.alloc (.cells z34R.toArray 26)).grownBy w7 (some w6.heap.size) → Below w.heap.size w w7 ∧ IsB w7 (.slice a4 n4 c4) zs ∧ IsLaid w7 w4.heap.size g n4 c zs ∧ IsJ w7 (.slice ua6 (decR zs).rs.length uc6) (decR zs).rs) := hide (fun w7 hg => by
        have hh : Below w6.heap.size w6 w7 := jbelow_grown hba6 hg hba6.size (Nat.le_refl _)
        exact ⟨below_then (below_then HB5.out hb6) hh, (HI5.out.below hb6).below hh, (HLD.out.below hb6).below hh, ho6.isJ.below hh⟩)
      clear ho6 hb6 hba6 HB5 HI5 HLD
      go_wp2_with (first
        | (refine wpList_allocJ rfl 26 rfl infoR ?_)
        | (refine wpList_storeJ rfl (.tmp 6) (.tmp 28) 26 rfl rfl rfl hA6 (hinf6 _) (hlen6 _) (jrV_one (decR zs) rfl) ?_; intro w7 hA7 hg7
           have HF7 := hide (unhide HST6 w7 hg7)
           have HA7 := hide hA7
           clear hA7 hg7 HST6 hA6)
        | fail)
      refine (unhide HRD _ _ _ HF7.out.2.1).mono ?_
      rintro e w8 ⟨u8, rfl, ho8, hb8⟩
      obtain ⟨ua8, uc8, hus8⟩ := ho8.shape
      subst hus8
      have hA8 := Arr.new w8 z34R 26
      have hba8 := jalloc_below w8 (.cells z34R.toArray 26)
      have HST8 : Hid (∀ w9, (w8.alloc (.cells z34R.toArray 26)).grownBy w9 (some w8.heap.size) → Below w7.heap.size w7 w9 ∧ IsJ w9 (.slice ua8 (decR zs).rs.length uc8) (decR zs).rs) := hide (fun w9 hg => by
        have hh : Below w8.heap.size w8 w9 := jbelow_grown hba8 hg hba8.size (Nat.le_refl _)
        exact ⟨below_then hb8 hh, ho8.isJ.below hh⟩)
      clear ho8 hb8 hba8
      go_wp2_with (first
        | (refine wpList_allocJ rfl 26 rfl infoR ?_)
        | (refine wpList_storeJ rfl (.tmp 8) (.tmp 33) 26 rfl rfl rfl hA8 (hinf6 _) (hlen6 _) (jrV_one (decR zs) rfl) ?_; intro w9 hA9 hg9
           have HF9 := hide (unhide HST8 w9 hg9)
           have HA9 := hide hA9
           clear hA9 hg9 HST8 hA8)
        | fail)
      have hb9 := HF9.out.1
      refine (intact_calls (HF7.out.2.2.1.below hb9) (HF7.out.2.1.below hb9) HNL.out).mono ?_
      rintro e wa ⟨rfl, hwa⟩
      have hba := below_same hwa
      have hra : wa.rangeAt w6.heap.size 0 (jrV (decR zs) (.slice ua6 (decR zs).rs.length uc6)) := Arr.rangeJ ((HA7.out.below hb9).below hba)
      have hrb : wa.rangeAt w8.heap.size 0 (jrV (decR zs) (.slice ua8 (decR zs).rs.length uc8)) := Arr.rangeJ (HA9.out.below hba)
      have HSR := hide (samerec_calls HOK.out ((HF7.out.2.2.2.below hb9).below hba) (HF9.out.2.below hba))
      have HBA := hide (below_then (below_then HF7.out.1 hb9) hba)
      have HDC : Hid ((decO zs).isSome = true ∧ decE zs = 0 ∨ (decO zs).isSome = false ∧ decE zs = 61) := hide (by
        cases hd : decO zs with
        | none => exact Or.inr ⟨rfl, (decR_none hd).2⟩
        | some r => exact Or.inl ⟨rfl, (decR_some hd).2⟩)
      generalize decE zs = de at *
      generalize (decO zs).isSome = ds at *
      have hi6 := hinf6 (.slice ua6 (decR zs).rs.length uc6)
      have hi8 := hinf6 (.slice ua8 (decR zs).rs.length uc8)
      generalize jrV (decR zs) (.slice ua6 (decR zs).rs.length uc6) = RA at *
      generalize jrV (decR zs) (.slice ua8 (decR zs).rs.length uc8) = RB at *
      clear hwa hba hb9 HA7 HA9 HF7 HF9 HOK hinf6 hlen6 HNL
      go_wp2_with (first
        | (refine wpList_loadJ (by rfl) 26 (.tmp 6) rfl _ 0 rfl RA _ hra Tryd.underlying26 rfl hi6 ?_)
        | (refine wpList_loadJ (by rfl) 26 (.tmp 8) rfl _ 0 rfl RB _ hrb Tryd.underlying26 rfl hi8 ?_)
        | fail)
      refine (unhide HSR).mono ?_
      rintro e wb ⟨rfl, hbb⟩
      have HBB := hide (below_then HBA.out hbb)
      clear hbb HBA HSR hra hrb hi6 hi8
      rcases HDC.out with ⟨h1, h2⟩ | ⟨h1, h2⟩
      · subst h1 h2
        go_wp2
        go_ret
        exact ⟨rfl, HBB.out⟩
      · subst h1 h2
        go_wp2
        go_ret
        exact ⟨rfl, HBB.out⟩
    · have h6 : ys.length ≤ 700 := hlm
      go_wp2_with (first
        | (at_builtin; refine wpList_appB rfl (.const (.slice none 0 0)) (.tmp 13) rfl rfl HN.out rfl HM.out hln (Nat.le_refl _) ?_; intro v3 w3 ho3 hg3
           have hb3 : Below w1.heap.size w1 w3 := (Below.refl _ _).grown hg3 (Nat.le_refl _) (fun b hb => by cases hb)
           have HB3 := hide (below_then HB1.out hb3)
           obtain ⟨a3, n3, c3, rfl⟩ := ho3.shape
           have HI3 : Hid (IsB w3 (.slice a3 n3 c3) ys) := hide ho3.isB
           have HL3 := hide hlm
           have hbq : ((n3 : Int) == 512) = false := by have := HI3.out.lenEq; simp; omega
           clear ho3 hg3 hb3 HM HN hln HB1 hlm)
        | fail)
      refine (laid_calls HI3.out (by have := HL3.out; omega)).mono ?_
      rintro e w5 ⟨g, c, rfl, hlaid, hb5⟩
      have HLD := hide hlaid
      have HI5 := hide (HI3.out.below hb5)
      have HB5 := hide (below_then HB3.out hb5)
      have HNL : Hid (n3 ≤ 140737488350000) := hide (by have h1 := HI3.out.lenEq; have h2 := HL3.out; omega)
      clear hlaid hb5 HI3 HB3 HL3
      go_wp2_with fail
      refine (unhide HJD _ _ _ HLD.out.isB (unhide HT _ HB5.out)).mono ?_
      rintro e w6 ⟨u6, rfl, ho6, hb6⟩
      have HOK := hide (decR_ok (isB_by HI5.out))
      obtain ⟨ua6, uc6, hus6⟩ := ho6.shape
      subst hus6
      have hA6 := Arr.new w6 z34R 26
      have hba6 := jalloc_below w6 (.cells z34R.toArray 26)
      have hinf6 := fun u => infoRof HOK.out.len u
      have hlen6 := fun u => (show z34R.length = (jrV (decR ys) u).length by rw [jrV_len HOK.out.len]; decide)
      have HST6 : Hid (∀ w7, (w6.alloc (.cells z34R.toArray 26)).grownBy w7 (some w6.heap.size) → Below w.heap.size w w7 ∧ IsB w7 (.slice a3 n3 c3) ys ∧ IsLaid w7 w3.heap.size g n3 c ys ∧ IsJ w7 (.slice ua6 (decR ys).rs.length uc6) (decR ys).rs) := hide (fun w7 hg => by
        have hh : Below w6.heap.size w6 w7 := jbelow_grown hba6 hg hba6.size (Nat.le_refl _)
        exact ⟨below_then (below_then HB5.out hb6) hh, (HI5.out.below hb6).below hh, (HLD.out.below hb6).below hh, ho6.isJ.below hh⟩)
      clear ho6 hb6 hba6 HB5 HI5 HLD
      go_wp2_with (first
        | (refine wpList_allocJ rfl 26 rfl infoR ?_)
        | (refine wpList_storeJ rfl (.tmp 6) (.tmp 28) 26 rfl rfl rfl hA6 (hinf6 _) (hlen6 _) (jrV_one (decR ys) rfl) ?_; intro w7 hA7 hg7
           have HF7 := hide (unhide HST6 w7 hg7)
           have HA7 := hide hA7
           clear hA7 hg7 HST6 hA6)
        | fail)
      refine (unhide HRD _ _ _ HF7.out.2.1).mono ?_
      rintro e w8 ⟨u8, rfl, ho8, hb8⟩
      obtain ⟨ua8, uc8, hus8⟩ := ho8.shape
      subst hus8
      have hA8 := Arr.new w8 z34R 26
      have hba8 := jalloc_below w8 (.cells z34R.toArray 26)
      have HST8 : Hid (∀ w9, (w8.alloc (.cells z34R.toArray 26)).grownBy w9 (some w8.heap.size) → Below w7.heap.size w7 w9 ∧ IsJ w9 (.slice ua8 (decR ys).rs.length uc8) (decR ys).rs) := hide (fun w9 hg => by
        have hh : Below w8.heap.size w8 w9 := jbelow_grown hba8 hg hba8.size (Nat.le_refl _)
        exact ⟨below_then hb8 hh, ho8.isJ.below hh⟩)
      clear ho8 hb8 hba8
      go_wp2_with (first
        | (refine wpList_allocJ rfl 26 rfl infoR ?_)
        | (refine wpList_storeJ rfl (.tmp 8) (.tmp 33) 26 rfl rfl rfl hA8 (hinf6 _) (hlen6 _) (jrV_one (decR ys) rfl) ?_; intro w9 hA9 hg9
           have HF9 := hide (unhide HST8 w9 hg9)
           have HA9 := hide hA9
           clear hA9 hg9 HST8 hA8)
        | fail)
      have hb9 := HF9.out.1
      refine (intact_calls (HF7.out.2.2.1.below hb9) (HF7.out.2.1.below hb9) HNL.out).mono ?_
      rintro e wa ⟨rfl, hwa⟩
      have hba := below_same hwa
      have hra : wa.rangeAt w6.heap.size 0 (jrV (decR ys) (.slice ua6 (decR ys).rs.length uc6)) := Arr.rangeJ ((HA7.out.below hb9).below hba)
      have hrb : wa.rangeAt w8.heap.size 0 (jrV (decR ys) (.slice ua8 (decR ys).rs.length uc8)) := Arr.rangeJ (HA9.out.below hba)
      have HSR := hide (samerec_calls HOK.out ((HF7.out.2.2.2.below hb9).below hba) (HF9.out.2.below hba))
      have HBA := hide (below_then (below_then HF7.out.1 hb9) hba)
      have HDC : Hid ((decO ys).isSome = true ∧ decE ys = 0 ∨ (decO ys).isSome = false ∧ decE ys = 61) := hide (by
        cases hd : decO ys with
        | none => exact Or.inr ⟨rfl, (decR_none hd).2⟩
        | some r => exact Or.inl ⟨rfl, (decR_some hd).2⟩)
      generalize decE ys = de at *
      generalize (decO ys).isSome = ds at *
      have hi6 := hinf6 (.slice ua6 (decR ys).rs.length uc6)
      have hi8 := hinf6 (.slice ua8 (decR ys).rs.length uc8)
      generalize jrV (decR ys) (.slice ua6 (decR ys).rs.length uc6) = RA at *
      generalize jrV (decR ys) (.slice ua8 (decR ys).rs.length uc8) = RB at *
      clear hwa hba hb9 HA7 HA9 HF7 HF9 HOK hinf6 hlen6 HNL
      go_wp2_with (first
        | (refine wpList_loadJ (by rfl) 26 (.tmp 6) rfl _ 0 rfl RA _ hra Tryd.underlying26 rfl hi6 ?_)
        | (refine wpList_loadJ (by rfl) 26 (.tmp 8) rfl _ 0 rfl RB _ hrb Tryd.underlying26 rfl hi8 ?_)
        | fail)
      refine (unhide HSR).mono ?_
      rintro e wb ⟨rfl, hbb⟩
      have HBB := hide (below_then HBA.out hbb)
      clear hbb HBA HSR hra hrb hi6 hi8
      rcases HDC.out with ⟨h1, h2⟩ | ⟨h1, h2⟩
      · subst h1 h2
        go_wp2
        go_ret
        exact ⟨rfl, HBB.out⟩
      · subst h1 h2
        go_wp2
        go_ret
        exact ⟨rfl, HBB.out⟩
end Go.Proofs.YtoiidhkpbekpiaaDoor
