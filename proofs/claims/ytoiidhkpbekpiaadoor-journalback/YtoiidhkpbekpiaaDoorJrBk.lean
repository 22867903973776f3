/- cutRefs, place; what JournalBack answers. -/
import Derived.Test.YtoiidhkpbekpiaaDoorJrTo
import Derived.Test.YtoiidhkpbekpiaaDoorJrT
namespace Go.Proofs.YtoiidhkpbekpiaaDoor
open Go.RowKit Go.Maps

theorem IsJ.cut {w : World} {a : Option Addr} {n cap k : Nat} {l : List JF} (h : IsJ w (.slice a n cap) l) (hk : k ≤ n) : IsJ w (.slice a k cap) (l.take k) := by
  obtain ⟨h0, a', c', hv, hl, hm, hz, hc⟩ := h
  injection hv with e1 e2 e3
  subst e1 e2 e3
  have hlk : (l.take k).length = k := by rw [List.length_take]; omega
  refine ⟨fun e he => h0 e (List.mem_of_mem_take he), a, cap, by rw [hlk], by omega, hm, hz, fun hp => ?_⟩
  obtain ⟨b, o, ha, hr⟩ := hc (by omega)
  refine ⟨b, o, ha, fun j hj => ?_⟩
  have := hr j (by omega)
  rw [show (l.take k).getD j .nul = l.getD j .nul by rw [List.getD_eq_getElem?_getD, List.getElem?_take_of_lt (by omega), ← List.getD_eq_getElem?_getD]]
  exact this
theorem IsJ.room {w : World} {a : Option Addr} {n cap : Nat} {l : List JF} (h : IsJ w (.slice a n cap) l) : n ≤ cap ∧ cap ≤ 9223372036854775807 := by
  obtain ⟨h0, a', c', hv, hl, hm, hz, hc⟩ := h
  injection hv with e1 e2 e3
  subst e1 e2 e3
  exact ⟨hl, hm⟩
theorem cutrefs_calls {w : World} {a : Option Addr} {n cap : Nat} {l : List JF} (h : IsJ w (.slice a n cap) l) :
    Calls Tryd.prog 9 #[.slice a n cap] w fun e w' => (∃ m, e = .returned (.slice a m cap) ∧ m ≤ n ∧ (m = 12 ∨ (m = n ∧ n ≤ 12))) ∧ w' = w := by
  have hn := h.lenEq
  have hr := h.room
  by_cases hlt : 12 < n
  · have hkI : (12 : Int) < (n : Int) := by omega
    have hkc : (12 : Int) ≤ (cap : Int) := by omega
    obtain ⟨ad, had⟩ : ∃ ad, a = some ad := by
      obtain ⟨_, a', cp', hv, _, _, _, hc⟩ := h
      obtain ⟨b, off, ha, _⟩ := hc (by omega)
      injection hv with e1
      exact ⟨_, e1.trans ha⟩
    subst had
    clear hn h
    go_enter Tryd.func9, Tryd.ntmps9
    go_wp2
    go_ret
    exact ⟨⟨12, rfl, by omega, Or.inl rfl⟩, rfl⟩
  · have hkI : ¬ (12 : Int) < (n : Int) := by omega
    clear hn h
    go_enter Tryd.func9, Tryd.ntmps9
    go_wp2
    go_ret
    exact ⟨⟨n, rfl, by omega, Or.inr ⟨rfl, by omega⟩⟩, rfl⟩
theorem jplace17_calls {x : Int} {n : Nat} (h0 : 0 < n) (hn : n ≤ 100000) (w : World) : Calls Tryd.prog 28 #[.int .i64 x, .int .i64 (n : Int)] w fun e w' => ∃ k : Nat, e = .returned (.int .i64 (k : Int)) ∧ k < n ∧ w' = w := by
  obtain ⟨r, hr⟩ : ∃ r, x.tmod (n : Int) = r := ⟨_, rfl⟩
  have hrb : -(n : Int) < r ∧ r < (n : Int) := by
    rw [← hr]
    by_cases h : x < 0
    · have e1 : x.tmod (n : Int) = -((-x).tmod (n : Int)) := by rw [Int.neg_tmod, Int.neg_neg]
      have e2 := Int.tmod_eq_emod_of_nonneg (a := -x) (b := n) (by omega)
      have e3 := Int.emod_nonneg (-x) (show (n : Int) ≠ 0 by omega)
      have e4 := Int.emod_lt_of_pos (-x) (show (0 : Int) < n by omega)
      omega
    · have e2 := Int.tmod_eq_emod_of_nonneg (a := x) (b := n) (by omega)
      have e3 := Int.emod_nonneg x (show (n : Int) ≠ 0 by omega)
      have e4 := Int.emod_lt_of_pos x (show (0 : Int) < n by omega)
      omega
  have hrw : IntKind.i64.wrap r = r := IntWalk.i64_in _ (by omega)
  have hnz : ¬ (n : Int) = 0 := by omega
  by_cases hneg : r < 0
  · obtain ⟨k, hk⟩ := Int.eq_ofNat_of_zero_le (show 0 ≤ r + n by omega)
    have hkw : IntKind.i64.wrap (r + n) = (k : Int) := by rw [IntWalk.i64_in _ (by omega), hk]
    have HK : Hid (k < n) := by show _ < _; omega
    clear hk hrb
    go_enter Tryd.func28, Tryd.ntmps28
    go_wp2
    go_ret
    exact ⟨k, rfl, HK.out, rfl⟩
  · obtain ⟨k, hk⟩ := Int.eq_ofNat_of_zero_le (show 0 ≤ r by omega)
    have HK : Hid (k < n) := by show _ < _; omega
    subst hk
    clear hrb
    go_enter Tryd.func28, Tryd.ntmps28
    go_wp2
    go_ret
    exact ⟨k, rfl, HK.out, rfl⟩
theorem own8_headJ {w : World} {B : Nat} {u : Value} {s : List Int} (h : Own8 w B u s) (hp : 0 < s.length) : ∃ g c, u = .slice (some ⟨g, 0, none⟩) s.length c ∧ s.length ≤ c ∧ c ≤ 9223372036854775807 ∧ B ≤ g ∧ (∀ j, j < s.length → w.cell? ⟨g, j, none⟩ = some (.int .u8 (s.getD j 0)) ∧ w.frozen? ⟨g, j, none⟩ = false) ∧
    ∀ (j : Nat) (x : Int), j < s.length → 0 ≤ x → x ≤ 255 → Own8 (w.setCell ⟨g, j, none⟩ (.int .u8 x)) B (.slice (some ⟨g, 0, none⟩) s.length c) (s.set j x) := by
  obtain ⟨h1, h2⟩ := h
  rcases h1.2 with ⟨rfl, h0⟩ | ⟨g, cap, cur, rfl, hb, hg, hle, hm, hsz, ht⟩
  · omega
  · simp only [Nat.mul_one] at hsz ht
    have hcell : ∀ j, j < s.length → w.cell? ⟨g, j, none⟩ = some (.int .u8 (s.getD j 0)) := fun j hj => by
      have := h1.cells (g := g) rfl j (.int .u8 (s.getD j 0)) (by rw [List.getElem?_map, List.getElem?_eq_getElem hj, List.getD_eq_getElem?_getD, List.getElem?_eq_getElem hj]; rfl)
      rw [Addr.add_lit, Nat.zero_add] at this
      exact this
    refine ⟨g, cap, rfl, hle, by simpa [maxLen] using hm, hb, fun j hj => ⟨hcell j hj, by unfold World.frozen?; rw [hg]; simp⟩, fun j x hj h0 h255 => ⟨⟨by simp, .inr ⟨g, cap, _, by rw [List.length_set], hb, heap_setCell_same w g j cur 5 (.int .u8 x) hg, by rw [List.length_set]; exact hle, hm, by simp [hsz], ?_⟩⟩, fun y hy => ?_⟩⟩
    · rw [List.length_set, Nat.mul_one, List.map_set, ← ht]
      apply List.ext_getElem?
      intro q
      simp only [Array.toList_setIfInBounds]
      rw [List.take_set]
    · rcases List.mem_or_eq_of_mem_set hy with hy | hy
      · exact h2 y hy
      · omega
theorem nulkey_eql (W : World) : (binOp .eql 23 (.agg (JR.nul.p.map (Value.int .u8)).toArray) (.agg #[.int .u8 0, .int .u8 0, .int .u8 0, .int .u8 0, .int .u8 0, .int .u8 0, .int .u8 0, .int .u8 0, .int .u8 0, .int .u8 0, .int .u8 0, .int .u8 0, .int .u8 0, .int .u8 0, .int .u8 0, .int .u8 0, .int .u8 0, .int .u8 0, .int .u8 0, .int .u8 0, .int .u8 0, .int .u8 0, .int .u8 0, .int .u8 0, .int .u8 0, .int .u8 0, .int .u8 0, .int .u8 0, .int .u8 0, .int .u8 0, .int .u8 0, .int .u8 0])).run Tryd.prog W = .ok (.bool true) W := by kernel_rfl
set_option maxRecDepth 100000 in
set_option maxHeartbeats 16000000 in
theorem journalBack_walk {w : World} {r : JR} {va : Option Addr} {n cap : Nat} {ta : Option Addr} {tn tc : Nat} {ts : List Int} (bit : Int) (hr : r.Ok) (hv : IsJ w (.slice va n cap) r.rs) (hx : IsB w (.slice ta tn tc) ts) (ht : Tab w) :
    Calls Tryd.prog 6 #[.agg (jrV r (.slice va n cap)).toArray, .slice ta tn tc, .int .i64 bit] w fun e w' => e = .returned (.bool true) ∧ Below w.heap.size w w' := by
  have HT : Hid (∀ W, Below w.heap.size w W → Tab W) := hide (fun W hW => ht.below hW)
  have HV : Hid (∀ W, Below w.heap.size w W → IsJ W (.slice va n cap) r.rs) := hide (fun W hW => hv.below hW)
  have HX : Hid (∀ W, Below w.heap.size w W → IsB W (.slice ta tn tc) ts) := hide (fun W hW => hx.below hW)
  have HJD : Hid (∀ W x b, IsB W x b → Tab W → Calls Tryd.prog 18 #[x] W fun e w' => ∃ u, e = .returned (.tuple #[.agg (jrV (decR b) u).toArray, .int .i64 (decE b)]) ∧ OwnJ w' W.heap.size u (decR b).rs ∧ Below W.heap.size W w') := hide (fun W x b h1 h2 => jdec_calls h1 h2)
  obtain ⟨q, hq⟩ : ∃ q : JR, q = ⟨r.n, r.p, r.rs.take 12⟩ := ⟨_, rfl⟩
  have hqo : q.Ok := by rw [hq]; exact ⟨hr.len, hr.by8, hr.num, fun x hx => hr.refs x (List.mem_of_mem_take hx)⟩
  have HQ : Hid (∀ u, jrV r u = jrV q u) := hide (fun u => by rw [hq]; rfl)
  have HQR : Hid (q.rs = r.rs.take 12) := hide (by rw [hq])
  have HQO := hide hqo
  have HRL := hide hr.len
  have hTO := fun W (hW : Below w.heap.size w W) => jtold_calls (ht.below hW)
  have HTO : Hid (∀ W, Below w.heap.size w W → Calls Tryd.prog 8 #[] W fun e w' => e = .returned (.bool true) ∧ Below W.heap.size W w') := hide hTO
  clear hr hv hx ht hq hqo hTO
  go_enter Tryd.func6, Tryd.ntmps6
  go_wp2_with (first
    | (refine wpList_boxJ rfl 26 (.tmp 0) rfl rfl ?_; intro w1 hA1 hb1 hs1
       have HA1 := hide hA1
       have HB1 := hide hb1
       have HS1 := hide hs1
       clear hA1 hb1 hs1)
    | fail)
  refine (unhide HTO _ HB1.out).mono ?_
  rintro e w2 ⟨rfl, hb2⟩
  have hA2 := HA1.out.below hb2
  have c33 : w2.cell? ⟨w.heap.size, 33, none⟩ = some (.slice va n cap) := (hA2.cell 33).trans (jrV_v HRL.out _)
  have f33 := hA2.frozen 33
  have HB2 := hide (below_then HB1.out hb2)
  have HCR := hide (cutrefs_calls (unhide HV _ HB2.out))
  have HA2 := hide hA2
  clear hA2 hb2 HA1 HB1 HTO
  go_wp2_with fail
  refine (unhide HCR).mono ?_
  rintro e w3 ⟨⟨m, rfl, hmn, hJm⟩, hw3⟩
  obtain rfl := hw3.symm
  have HJ : Hid (∀ W, Below w.heap.size w W → IsJ W (.slice va m cap) q.rs) := hide (fun W hW => by
    have h1 := unhide HV _ hW
    have h2 := h1.lenEq
    rw [HQR.out, show r.rs.take 12 = r.rs.take m by rcases hJm with rfl | ⟨rfl, h3⟩; rfl; rw [List.take_of_length_le (by omega), List.take_of_length_le (by omega)]]
    exact h1.cut hmn)
  clear hw3 hJm hmn HCR HV HQR
  have hA3 : Arr (w2.setCell ⟨w.heap.size, 33, none⟩ (.slice va m cap)) w.heap.size 26 (jrV q (.slice va m cap)) := by
    have := HA2.out.set 33 (.slice va m cap)
    rw [jrV_set HRL.out, HQ.out] at this
    exact this
  have HB3 : Hid (Below w.heap.size w (w2.setCell ⟨w.heap.size, 33, none⟩ (.slice va m cap))) := hide (HB2.out.setCell (Nat.le_refl _) _)
  have hr3 := hA3.rangeJ
  have hi3 := infoRof HQO.out.len (.slice va m cap)
  have HA3 := hide hA3
  have HDN : Hid (∀ W x b, IsB W x b → decO b = none → Tab W → Calls Tryd.prog 18 #[x] W fun e w' => ∃ u, e = .returned (.tuple #[.agg (jrV .nul u).toArray, .int .i64 61]) ∧ OwnJ w' W.heap.size u JR.nul.rs ∧ Below W.heap.size W w') := hide (fun W x b h1 h0 h2 => by have := jdec_calls h1 h2; rw [(decR_none h0).1, (decR_none h0).2] at this; exact this)
  have HDS : Hid (∀ W x b r2, IsB W x b → decO b = some r2 → Tab W → Calls Tryd.prog 18 #[x] W fun e w' => ∃ u, e = .returned (.tuple #[.agg (jrV r2 u).toArray, .int .i64 0]) ∧ OwnJ w' W.heap.size u r2.rs ∧ Below W.heap.size W w') := hide (fun W x b r2 h1 h0 h2 => by have := jdec_calls h1 h2; rw [(decR_some h0).1, (decR_some h0).2] at this; exact this)
  have HEN := hide (jenc_calls HQO.out (unhide HJ _ HB3.out) (unhide HT _ HB3.out))
  go_wp2_with (first
    | (refine wpList_loadJ rfl 26 (.tmp 3) rfl _ 0 rfl _ _ hr3 Tryd.underlying26 rfl hi3 ?_)
    | fail)
  generalize w2.setCell ⟨w.heap.size, 33, none⟩ (.slice va m cap) = w3 at *
  clear HA2 HB2 c33 f33 HQ HJD hA3
  by_cases he : encE q = 0
  · have HE1 : Hid (Calls Tryd.prog 11 #[.agg (jrV q (.slice va m cap)).toArray] w3 fun e w' => ∃ u, e = .returned (.tuple #[u, .int .i64 0]) ∧ Own8 w' w3.heap.size u (encL q) ∧ Below w3.heap.size w3 w') := hide (by have := HEN.out; rw [he, encR_yes he] at this; exact this)
    have HDQ := hide (dec_enc HQO.out he)
    have HLE : Hid ((encL q).length = 512) := hide (encL_len HQO.out (encE_ok he).2.2.2.1)
    clear HEN he
    refine (unhide HE1).mono ?_
    rintro e w4 ⟨u4, rfl, ho4, hb4⟩
    obtain ⟨g4, c4, hu4, hle4, hcm4, hBg4, _, _⟩ := own8_headJ ho4 (by rw [HLE.out]; decide)
    rw [HLE.out] at hu4 hle4
    subst hu4
    have HO4 := hide ho4.isB
    have HA4 := hide (HA3.out.below hb4)
    have HB4 := hide (below_then HB3.out hb4)
    clear ho4 hb4 HE1 HA3 HB3 hr3 hBg4
    go_wp2_with fail
    refine (unhide HDS _ _ _ _ HO4.out HDQ.out (unhide HT _ HB4.out)).mono ?_
    rintro e w5 ⟨u6, rfl, ho6, hb6⟩
    obtain ⟨ua6, uc6, hus6⟩ := ho6.shape
    subst hus6
    have hA6 := Arr.new w5 z34R 26
    have hba6 := jalloc_below w5 (.cells z34R.toArray 26)
    have hinf6 := fun u => infoRof (r := q) HQO.out.len u
    have hlen6 := fun u => (show z34R.length = (jrV q u).length by rw [jrV_len HQO.out.len]; decide)
    have HST6 : Hid (∀ W, (w5.alloc (.cells z34R.toArray 26)).grownBy W (some w5.heap.size) → Below w4.heap.size w4 W ∧ IsJ W (.slice ua6 (q).rs.length uc6) (q).rs) := hide (fun W hg => by
      have hh : Below w5.heap.size w5 W := jbelow_grown hba6 hg hba6.size (Nat.le_refl _)
      exact ⟨below_then hb6 hh, ho6.isJ.below hh⟩)
    clear ho6 hb6 hba6
    go_wp2_with (first
      | (refine wpList_allocJ rfl 26 rfl infoR ?_)
      | (refine wpList_storeJ rfl (.tmp 9) (.tmp 36) 26 rfl rfl rfl hA6 (hinf6 _) (hlen6 _) (jrV_one q rfl) ?_; intro w6 hB6 hg6
         have HF6 := hide (unhide HST6 w6 hg6)
         have HA6 := hide hB6
         have hra : w6.rangeAt w5.heap.size 0 (jrV q (.slice ua6 (q).rs.length uc6)) := Arr.rangeJ HA6.out
         have hrb : w6.rangeAt w.heap.size 0 (jrV q (.slice va m cap)) := Arr.rangeJ (HA4.out.below HF6.out.1)
         clear hB6 hg6 HST6 hA6)
      | (refine wpList_loadJ (by rfl) 26 (.tmp 9) rfl _ 0 rfl _ _ hra Tryd.underlying26 rfl (hinf6 _) ?_)
      | (refine wpList_loadJ (by rfl) 26 (.tmp 3) rfl _ 0 rfl _ _ hrb Tryd.underlying26 rfl (hinf6 _) ?_)
      | fail)
    have HB6 := hide (below_then HB4.out HF6.out.1)
    have HO6 := hide (HO4.out.below HF6.out.1)
    have HJ6 := hide HF6.out.2
    refine (samerec_calls HQO.out HJ6.out (unhide HJ _ HB6.out)).mono ?_
    rintro e w7 ⟨rfl, hb7⟩
    have HB7 := hide (below_then HB6.out hb7)
    have HO7 := hide (HO6.out.below hb7)
    clear hb7 HB6 HO6 HJ6 HF6 HA6 hra hrb HO4 HA4 HB4 hinf6 hlen6 hi3
    have HN7 := hide (Own8.nil w7 w7.heap.size)
    have hln : ([] : List Int).length + (encL q).length ≤ 140737488355328 := by rw [HLE.out]; decide
    go_wp2_with (first
      | (at_builtin; refine wpList_appB rfl (.const (.slice none 0 0)) (.tmp 51) rfl rfl HN7.out rfl HO7.out hln (Nat.le_refl _) ?_; intro v8 w8 ho8 hg8
         have hb8 : Below w7.heap.size w7 w8 := (Below.refl _ _).grown hg8 (Nat.le_refl _) (fun b hb => by cases hb)
         obtain ⟨g8, c8, hu8, hle8, hcm8, hBg8, hcell8, hset8⟩ := own8_headJ ho8 (by rw [List.nil_append, HLE.out]; decide)
         rw [List.nil_append, HLE.out] at hu8 hle8
         subst hu8
         have HCL := hide hcell8
         have HSET := hide hset8
         have HB8 := hide hb8
         have HGB := hide hBg8
         clear ho8 hg8 hb8 hcell8 hset8 hBg8 HN7)
      | fail)
    refine (jplace17_calls (x := bit) (n := 4096) (by decide) (by decide) _).mono ?_
    rintro e w9 ⟨k, rfl, hk, hw9⟩
    obtain rfl := hw9.symm
    obtain ⟨qq, hqq⟩ : ∃ qq, k / 8 = qq := ⟨_, rfl⟩
    obtain ⟨rr, hrr⟩ : ∃ rr, k % 8 = rr := ⟨_, rfl⟩
    have hr8 : rr < 8 := by omega
    have hq5 : qq < 512 := by omega
    have hdiv : (k : Int).tdiv 8 = (qq : Int) := by rw [Int.tdiv_eq_ediv_of_nonneg (by omega)]; omega
    have hmod : (k : Int).tmod 8 = (rr : Int) := by rw [Int.tmod_eq_emod_of_nonneg (by omega)]; omega
    have hdiv2 : (k : Int) / 8 = (qq : Int) := by omega
    have hmod2 : (k : Int) % 8 = (rr : Int) := by omega
    have hwk : IntKind.u64.wrap (k : Int) = (k : Int) := by rw [IntKind.wrap_u64]; omega
    obtain ⟨hc8, hf8⟩ := unhide HCL qq (by rw [List.nil_append, HLE.out]; exact hq5)
    rw [List.nil_append] at hc8
    have hx8 : 0 ≤ (encL q).getD qq 0 ∧ (encL q).getD qq 0 ≤ 255 := by
      rw [List.getD_eq_getElem?_getD, List.getElem?_eq_getElem (by rw [HLE.out]; exact hq5)]
      exact isB_by HO7.out _ (List.getElem_mem _)
    have hxn : ¬ (encL q).getD qq 0 < 0 := by omega
    have HTU : Hid (turnB (encL q) k = (encL q).set qq ((((encL q).getD qq 0).toNat ^^^ 2 ^ rr : Nat) : Int)) := hide (by unfold turnB; rw [hqq, hrr]; rfl)
    have hy : bits .xor .u8 ((encL q).getD qq 0) ((2 : Int) ^ rr % 256) = ((((encL q).getD qq 0).toNat ^^^ 2 ^ rr : Nat) : Int) := by
      have hp : (2 : Nat) ^ rr < 2 ^ 8 := Nat.pow_lt_pow_right (by omega) hr8
      have e : ((2 : Int) ^ rr % 256) = ((2 ^ rr : Nat) : Int) := by
        have : (2 : Int) ^ rr = ((2 ^ rr : Nat) : Int) := by simp
        rw [this]
        generalize (2 : Nat) ^ rr = pw at hp
        omega
      rw [e, u8_xor _ _ hx8.1 (by omega) (by omega) (by omega), Int.toNat_natCast]
    have hyb : 0 ≤ ((((encL q).getD qq 0).toNat ^^^ 2 ^ rr : Nat) : Int) ∧ ((((encL q).getD qq 0).toNat ^^^ 2 ^ rr : Nat) : Int) ≤ 255 := by
      have h1 : (((encL q).getD qq 0).toNat) < 2 ^ 8 := by omega
      have h2 : 2 ^ rr < 2 ^ 8 := Nat.pow_lt_pow_right (by omega) hr8
      have h3 := Nat.xor_lt_two_pow h1 h2
      generalize (((encL q).getD qq 0).toNat ^^^ 2 ^ rr) = zz at h3
      omega
    have HY := hide hy
    have hset := unhide HSET qq ((((encL q).getD qq 0).toNat ^^^ 2 ^ rr : Nat) : Int) (by rw [List.nil_append, HLE.out]; exact hq5) hyb.1 hyb.2
    rw [List.nil_append, ← HTU.out, HLE.out] at hset
    have HO9 := hide hset.isB
    have HTN := hide (turn_none (isB_by HO7.out) HDQ.out hk)
    have HB9 : Hid (Below w7.heap.size w7 (w8.setCell ⟨g8, qq, none⟩ (.int .u8 ((((encL q).getD qq 0).toNat ^^^ 2 ^ rr : Nat) : Int)))) := hide (HB8.out.setCell HGB.out _)
    generalize (encL q).getD qq 0 = xx at *
    clear hw9 hqq hrr hset hy hyb HCL HSET HTU hx8 HB8 HGB hk
    go_wp2_with fail
    rw [HY.out]
    generalize w8.setCell ⟨g8, qq, none⟩ (.int .u8 ((xx.toNat ^^^ 2 ^ rr : Nat) : Int)) = w9 at *
    clear HY hc8 hf8
    have HBw9 := hide (below_then HB7.out HB9.out)
    refine (unhide HDN _ _ _ HO9.out HTN.out (unhide HT _ HBw9.out)).mono ?_
    rintro e wa ⟨u12, rfl, ho12, hb12⟩
    obtain ⟨ua12, uc12, hus12⟩ := ho12.shape
    subst hus12
    have hA12 := Arr.new wa z34R 26
    have hba12 := jalloc_below wa (.cells z34R.toArray 26)
    have hinf12 := fun u => infoRof (r := JR.nul) nul_len u
    have hlen12 := fun u => (show z34R.length = (jrV JR.nul u).length by rw [jrV_len nul_len]; decide)
    have HST12 : Hid (∀ W, (wa.alloc (.cells z34R.toArray 26)).grownBy W (some wa.heap.size) → Below w9.heap.size w9 W ∧ IsJ W (.slice ua12 (JR.nul).rs.length uc12) (JR.nul).rs) := hide (fun W hg => by
      have hh : Below wa.heap.size wa W := jbelow_grown hba12 hg hba12.size (Nat.le_refl _)
      exact ⟨below_then hb12 hh, ho12.isJ.below hh⟩)
    clear ho12 hb12 hba12
    go_wp2_with (first
      | (refine wpList_allocJ rfl 26 rfl infoR ?_)
      | (refine wpList_storeJ rfl (.tmp 12) (.tmp 72) 26 rfl rfl rfl hA12 (hinf12 _) (hlen12 _) (jrV_one JR.nul rfl) ?_; intro wb hB12 hg12
         have HF12 := hide (unhide HST12 wb hg12)
         have HA12 := hide hB12
         clear hB12 hg12 HST12 hA12)
      | fail)
    have HBb := hide (below_then HBw9.out HF12.out.1)
    have HOb := hide ((HO7.out.below HB9.out).below HF12.out.1)
    have HOc := hide (HOb.out.cut (k := 511) (by decide))
    have hle9 : (511 : Int) ≤ (c4 : Int) := by omega
    have HLc : Hid (decO ((encL q).take 511) = none) := hide (short_none (by rw [List.length_take, HLE.out]; decide))
    clear HF12 HA12 HBw9 HB9 HO9 HTN HO7 HB7
    have HPL : Hid (decO (encL q ++ [0]) = none) := hide (short_none (by rw [List.length_append, HLE.out]; decide))
    refine (unhide HDN _ _ _ HOc.out HLc.out (unhide HT _ HBb.out)).mono ?_
    rintro e wc ⟨u14, rfl, ho14, hb14⟩
    obtain ⟨ua14, uc14, hus14⟩ := ho14.shape
    subst hus14
    have hA14 := Arr.new wc z34R 26
    have hba14 := jalloc_below wc (.cells z34R.toArray 26)
    have hinf14 := fun u => infoRof (r := JR.nul) nul_len u
    have hlen14 := fun u => (show z34R.length = (jrV JR.nul u).length by rw [jrV_len nul_len]; decide)
    have HST14 : Hid (∀ W, (wc.alloc (.cells z34R.toArray 26)).grownBy W (some wc.heap.size) → Below wb.heap.size wb W ∧ IsJ W (.slice ua14 (JR.nul).rs.length uc14) (JR.nul).rs) := hide (fun W hg => by
      have hh : Below wc.heap.size wc W := jbelow_grown hba14 hg hba14.size (Nat.le_refl _)
      exact ⟨below_then hb14 hh, ho14.isJ.below hh⟩)
    clear ho14 hb14 hba14
    go_wp2_with (first
      | (refine wpList_allocJ rfl 26 rfl infoR ?_)
      | (refine wpList_storeJ rfl (.tmp 14) (.tmp 78) 26 rfl rfl rfl hA14 (hinf14 _) (hlen14 _) (jrV_one JR.nul rfl) ?_; intro wd hB14 hg14
         have HF14 := hide (unhide HST14 wd hg14)
         have HA14 := hide hB14
         have HNd := hide (Own8.nil wd wd.heap.size)
         have HOd := hide (HOb.out.below HF14.out.1)
         have HBd := hide (below_then HBb.out HF14.out.1)
         clear hB14 hg14 HST14 hA14)
      | (at_builtin; refine wpList_appB rfl (.const (.slice none 0 0)) (.tmp 81) rfl rfl HNd.out rfl HOd.out hln (Nat.le_refl _) ?_; intro ve we hoe hge; rw [List.nil_append] at hoe; have hEe : E8 wd we wd.heap.size ve (encL q) := ⟨hoe, hge.size, (Below.refl _ _).grown hge (Nat.le_refl _) (fun b hb => by cases hb)⟩; obtain ⟨ae, ne, ce, rfl⟩ := hoe.shape; have HEe := hide (hEe.below (jalloc_below we (.cells #[.int .u8 0] 5))); have HIe := hide (isB_lit we [0] (by decide) (by decide)); have hl9 : (encL q).length + ([0] : List Int).length ≤ 140737488355328 := (by rw [HLE.out]; decide); clear hoe hge hEe)
      | (at_builtin; refine wpList_appB rfl (.tmp 82) (.tmp 83) rfl rfl HEe.out.1 rfl HIe.out hl9 HEe.out.2.1 ?_; intro vf wf hof hgf; have hEf := HEe.out.app hof hgf; obtain ⟨af, nf, cf, rfl⟩ := hof.shape; have HOf := hide hEf.1.isB; have HBf := hide (below_then HBd.out hEf.2.2); clear hof hgf hEf)
      | fail)
    clear HF14 HA14 HOc HLc HBb HOb HOd HNd HEe HIe HBd
    refine (unhide HDN _ _ _ HOf.out HPL.out (unhide HT _ HBf.out)).mono ?_
    rintro e wg ⟨u16, rfl, ho16, hb16⟩
    obtain ⟨ua16, uc16, hus16⟩ := ho16.shape
    subst hus16
    have hA16 := Arr.new wg z34R 26
    have hba16 := jalloc_below wg (.cells z34R.toArray 26)
    have hinf16 := fun u => infoRof (r := JR.nul) nul_len u
    have hlen16 := fun u => (show z34R.length = (jrV JR.nul u).length by rw [jrV_len nul_len]; decide)
    have HST16 : Hid (∀ W, (wg.alloc (.cells z34R.toArray 26)).grownBy W (some wg.heap.size) → Below wf.heap.size wf W ∧ IsJ W (.slice ua16 (JR.nul).rs.length uc16) (JR.nul).rs) := hide (fun W hg => by
      have hh : Below wg.heap.size wg W := jbelow_grown hba16 hg hba16.size (Nat.le_refl _)
      exact ⟨below_then hb16 hh, ho16.isJ.below hh⟩)
    clear ho16 hb16 hba16
    go_wp2_with (first
      | (refine wpList_allocJ rfl 26 rfl infoR ?_)
      | (refine wpList_storeJ rfl (.tmp 16) (.tmp 86) 26 rfl rfl rfl hA16 (hinf16 _) (hlen16 _) (jrV_one JR.nul rfl) ?_; intro wh hB16 hg16
         have HF16 := hide (unhide HST16 wh hg16)
         have HA16 := hide hB16
         have HBh := hide (below_then HBf.out HF16.out.1)
         clear hB16 hg16 HST16 hA16)
      | fail)
    clear HF16 HA16 HOf HPL HBf
    refine (cut_calls (unhide HX _ HBh.out) 700 (by decide)).mono ?_
    rintro e wt ⟨⟨mt, rfl, hmt, hIt⟩, hwt⟩
    obtain rfl := hwt.symm
    have HIt := hide hIt
    clear hwt hIt hmt
    go_wp2_with fail
    cases hd : decO (ts.take 700) with
    | none =>
      refine (unhide HDN _ _ _ HIt.out hd (unhide HT _ HBh.out)).mono ?_
      rintro e wx ⟨u17, rfl, ho17, hb17⟩
      obtain ⟨ua17, uc17, hus17⟩ := ho17.shape
      subst hus17
      have hA17 := Arr.new wx z34R 26
      have hba17 := jalloc_below wx (.cells z34R.toArray 26)
      have hinf17 := fun u => infoRof (r := JR.nul) nul_len u
      have hlen17 := fun u => (show z34R.length = (jrV JR.nul u).length by rw [jrV_len nul_len]; decide)
      have HST17 : Hid (∀ W, (wx.alloc (.cells z34R.toArray 26)).grownBy W (some wx.heap.size) → Below wh.heap.size wh W ∧ IsJ W (.slice ua17 (JR.nul).rs.length uc17) (JR.nul).rs) := hide (fun W hg => by
        have hh : Below wx.heap.size wx W := jbelow_grown hba17 hg hba17.size (Nat.le_refl _)
        exact ⟨below_then hb17 hh, ho17.isJ.below hh⟩)
      clear ho17 hb17 hba17
      go_wp2_with (first
        | (refine wpList_allocJ rfl 26 rfl infoR ?_)
        | (refine wpList_storeJ rfl (.tmp 18) (.tmp 102) 26 rfl rfl rfl hA17 (hinf17 _) (hlen17 _) (jrV_one JR.nul rfl) ?_; intro wy hB17 hg17
           have HF17 := hide (unhide HST17 wy hg17)
           have HA17 := hide hB17
           have k0 : wy.cell? ⟨wx.heap.size, 0, none⟩ = some (.int .i64 0) := HA17.out.cell 0
           have k33 : wy.cell? ⟨wx.heap.size, 33, none⟩ = some (.slice ua17 0 uc17) := (HA17.out.cell 33).trans (jrV_v nul_len _)
           have hke := nulkey_eql
           have hkg := key_guard
           have HBy := hide (below_then HBh.out HF17.out.1)
           have kr : wy.rangeAt wx.heap.size 1 (JR.nul.p.map (Value.int .u8)) := fun j u hu => (by rw [HA17.out.cell]; exact jrV_p j u hu)
           clear hB17 hg17 HST17 hA17)
        | (refine wpList_loadJ (by rfl) 23 (.tmp 116) rfl _ 1 rfl _ _ kr Tryd.underlying23 rfl (infoKof nul_len) ?_)
        | fail)
      go_ret
      exact ⟨rfl, HBy.out⟩
    | some r2 =>
      have hl2 := (dec_some hd).1
      have he2 := (dec_some hd).2.2.1
      have hE2 := (dec_some hd).2.2.2
      have hr2 := dec_ok (isB_by HIt.out) hd
      have hts : ts.take 700 = ts := List.take_of_length_le (by rw [List.length_take] at hl2; omega)
      have HE2 := hide (hE2.trans hts)
      have HR2 := hide hr2
      have HZ2 := hide he2
      clear hl2 he2 hE2 hr2 hts
      refine (unhide HDS _ _ _ _ HIt.out hd (unhide HT _ HBh.out)).mono ?_
      rintro e wx ⟨u17, rfl, ho17, hb17⟩
      obtain ⟨ua17, uc17, hus17⟩ := ho17.shape
      subst hus17
      have hA17 := Arr.new wx z34R 26
      have hba17 := jalloc_below wx (.cells z34R.toArray 26)
      have hinf17 := fun u => infoRof (r := r2) HR2.out.len u
      have hlen17 := fun u => (show z34R.length = (jrV r2 u).length by rw [jrV_len HR2.out.len]; decide)
      have HST17 : Hid (∀ W, (wx.alloc (.cells z34R.toArray 26)).grownBy W (some wx.heap.size) → Below wh.heap.size wh W ∧ IsJ W (.slice ua17 (r2).rs.length uc17) (r2).rs) := hide (fun W hg => by
        have hh : Below wx.heap.size wx W := jbelow_grown hba17 hg hba17.size (Nat.le_refl _)
        exact ⟨below_then hb17 hh, ho17.isJ.below hh⟩)
      clear ho17 hb17 hba17
      go_wp2_with (first
        | (refine wpList_allocJ rfl 26 rfl infoR ?_)
        | (refine wpList_storeJ rfl (.tmp 18) (.tmp 102) 26 rfl rfl rfl hA17 (hinf17 _) (hlen17 _) (jrV_one r2 rfl) ?_; intro wy hB17 hg17
           have HF17 := hide (unhide HST17 wy hg17)
           have HA17 := hide hB17
           have kr : wy.rangeAt wx.heap.size 0 (jrV r2 (.slice ua17 (r2).rs.length uc17)) := Arr.rangeJ HA17.out
           clear hB17 hg17 HST17 hA17)
        | (refine wpList_loadJ rfl 26 (.tmp 18) rfl _ 0 rfl _ _ kr Tryd.underlying26 rfl (hinf17 _) ?_)
        | fail)
      have HBy := hide (below_then HBh.out HF17.out.1)
      have HEN2 : Hid (Calls Tryd.prog 11 #[.agg (jrV r2 (.slice ua17 r2.rs.length uc17)).toArray] wy fun e w' => ∃ u, e = .returned (.tuple #[u, .int .i64 0]) ∧ Own8 w' wy.heap.size u ts ∧ Below wy.heap.size wy w') := hide (by have := jenc_calls HR2.out HF17.out.2 (unhide HT _ HBy.out); rw [HZ2.out, encR_yes HZ2.out, HE2.out] at this; exact this)
      refine (unhide HEN2).mono ?_
      rintro e wz ⟨uz, rfl, hoz, hbz⟩
      obtain ⟨az, nz, cz, rfl⟩ := hoz.shape
      have HOz := hide hoz.isB
      have HBz := hide (below_then HBy.out hbz)
      clear hoz hbz HEN2 HF17 HA17 kr HBy
      go_wp2_with fail
      refine (same_calls HOz.out (unhide HX _ HBz.out)).mono ?_
      rintro e wq ⟨rfl, hwq⟩
      have HBq := hide (below_then HBz.out (below_same hwq))
      clear hwq HOz HBz
      go_wp2
      go_ret
      exact ⟨rfl, HBq.out⟩
  · obtain ⟨z, hz⟩ : ∃ z, z = encE q := ⟨_, rfl⟩
    have HE1 : Hid (Calls Tryd.prog 11 #[.agg (jrV q (.slice va m cap)).toArray] w3 fun e w' => ∃ u, e = .returned (.tuple #[u, .int .i64 z]) ∧ Own8 w' w3.heap.size u (encR q) ∧ Below w3.heap.size w3 w') := hide (by have := HEN.out; rw [← hz] at this; exact this)
    have hzn : ¬ z = 0 := by rw [hz]; exact he
    have hzb : (z == 0) = false := by simp [hzn]
    clear HEN he hz
    refine (unhide HE1).mono ?_
    rintro e w4 ⟨u4, rfl, ho4, hb4⟩
    obtain ⟨a4, n4, c4, rfl⟩ := ho4.shape
    have HB4 := hide (below_then HB3.out hb4)
    clear ho4 hb4 HE1 HA3 HB3 hr3
    go_wp2_with fail
    refine (cut_calls (unhide HX _ HB4.out) 700 (by decide)).mono ?_
    rintro e wt ⟨⟨mt, rfl, hmt, hIt⟩, hwt⟩
    obtain rfl := hwt.symm
    have HIt := hide hIt
    clear hwt hIt hmt
    go_wp2_with fail
    cases hd : decO (ts.take 700) with
    | none =>
      refine (unhide HDN _ _ _ HIt.out hd (unhide HT _ HB4.out)).mono ?_
      rintro e wx ⟨u17, rfl, ho17, hb17⟩
      obtain ⟨ua17, uc17, hus17⟩ := ho17.shape
      subst hus17
      have hA17 := Arr.new wx z34R 26
      have hba17 := jalloc_below wx (.cells z34R.toArray 26)
      have hinf17 := fun u => infoRof (r := JR.nul) nul_len u
      have hlen17 := fun u => (show z34R.length = (jrV JR.nul u).length by rw [jrV_len nul_len]; decide)
      have HST17 : Hid (∀ W, (wx.alloc (.cells z34R.toArray 26)).grownBy W (some wx.heap.size) → Below w4.heap.size w4 W ∧ IsJ W (.slice ua17 (JR.nul).rs.length uc17) (JR.nul).rs) := hide (fun W hg => by
        have hh : Below wx.heap.size wx W := jbelow_grown hba17 hg hba17.size (Nat.le_refl _)
        exact ⟨below_then hb17 hh, ho17.isJ.below hh⟩)
      clear ho17 hb17 hba17
      go_wp2_with (first
        | (refine wpList_allocJ rfl 26 rfl infoR ?_)
        | (refine wpList_storeJ rfl (.tmp 18) (.tmp 102) 26 rfl rfl rfl hA17 (hinf17 _) (hlen17 _) (jrV_one JR.nul rfl) ?_; intro wy hB17 hg17
           have HF17 := hide (unhide HST17 wy hg17)
           have HA17 := hide hB17
           have k0 : wy.cell? ⟨wx.heap.size, 0, none⟩ = some (.int .i64 0) := HA17.out.cell 0
           have k33 : wy.cell? ⟨wx.heap.size, 33, none⟩ = some (.slice ua17 0 uc17) := (HA17.out.cell 33).trans (jrV_v nul_len _)
           have hke := nulkey_eql
           have hkg := key_guard
           have HBy := hide (below_then HB4.out HF17.out.1)
           have kr : wy.rangeAt wx.heap.size 1 (JR.nul.p.map (Value.int .u8)) := fun j u hu => (by rw [HA17.out.cell]; exact jrV_p j u hu)
           clear hB17 hg17 HST17 hA17)
        | (refine wpList_loadJ (by rfl) 23 (.tmp 116) rfl _ 1 rfl _ _ kr Tryd.underlying23 rfl (infoKof nul_len) ?_)
        | fail)
      go_ret
      exact ⟨rfl, HBy.out⟩
    | some r2 =>
      have hl2 := (dec_some hd).1
      have he2 := (dec_some hd).2.2.1
      have hE2 := (dec_some hd).2.2.2
      have hr2 := dec_ok (isB_by HIt.out) hd
      have hts : ts.take 700 = ts := List.take_of_length_le (by rw [List.length_take] at hl2; omega)
      have HE2 := hide (hE2.trans hts)
      have HR2 := hide hr2
      have HZ2 := hide he2
      clear hl2 he2 hE2 hr2 hts
      refine (unhide HDS _ _ _ _ HIt.out hd (unhide HT _ HB4.out)).mono ?_
      rintro e wx ⟨u17, rfl, ho17, hb17⟩
      obtain ⟨ua17, uc17, hus17⟩ := ho17.shape
      subst hus17
      have hA17 := Arr.new wx z34R 26
      have hba17 := jalloc_below wx (.cells z34R.toArray 26)
      have hinf17 := fun u => infoRof (r := r2) HR2.out.len u
      have hlen17 := fun u => (show z34R.length = (jrV r2 u).length by rw [jrV_len HR2.out.len]; decide)
      have HST17 : Hid (∀ W, (wx.alloc (.cells z34R.toArray 26)).grownBy W (some wx.heap.size) → Below w4.heap.size w4 W ∧ IsJ W (.slice ua17 (r2).rs.length uc17) (r2).rs) := hide (fun W hg => by
        have hh : Below wx.heap.size wx W := jbelow_grown hba17 hg hba17.size (Nat.le_refl _)
        exact ⟨below_then hb17 hh, ho17.isJ.below hh⟩)
      clear ho17 hb17 hba17
      go_wp2_with (first
        | (refine wpList_allocJ rfl 26 rfl infoR ?_)
        | (refine wpList_storeJ rfl (.tmp 18) (.tmp 102) 26 rfl rfl rfl hA17 (hinf17 _) (hlen17 _) (jrV_one r2 rfl) ?_; intro wy hB17 hg17
           have HF17 := hide (unhide HST17 wy hg17)
           have HA17 := hide hB17
           have kr : wy.rangeAt wx.heap.size 0 (jrV r2 (.slice ua17 (r2).rs.length uc17)) := Arr.rangeJ HA17.out
           clear hB17 hg17 HST17 hA17)
        | (refine wpList_loadJ rfl 26 (.tmp 18) rfl _ 0 rfl _ _ kr Tryd.underlying26 rfl (hinf17 _) ?_)
        | fail)
      have HBy := hide (below_then HB4.out HF17.out.1)
      have HEN2 : Hid (Calls Tryd.prog 11 #[.agg (jrV r2 (.slice ua17 r2.rs.length uc17)).toArray] wy fun e w' => ∃ u, e = .returned (.tuple #[u, .int .i64 0]) ∧ Own8 w' wy.heap.size u ts ∧ Below wy.heap.size wy w') := hide (by have := jenc_calls HR2.out HF17.out.2 (unhide HT _ HBy.out); rw [HZ2.out, encR_yes HZ2.out, HE2.out] at this; exact this)
      refine (unhide HEN2).mono ?_
      rintro e wz ⟨uz, rfl, hoz, hbz⟩
      obtain ⟨az, nz, cz, rfl⟩ := hoz.shape
      have HOz := hide hoz.isB
      have HBz := hide (below_then HBy.out hbz)
      clear hoz hbz HEN2 HF17 HA17 kr HBy
      go_wp2_with fail
      refine (same_calls HOz.out (unhide HX _ HBz.out)).mono ?_
      rintro e wq ⟨rfl, hwq⟩
      have HBq := hide (below_then HBz.out (below_same hwq))
      clear hwq HOz HBz
      go_wp2
      go_ret
      exact ⟨rfl, HBq.out⟩
end Go.Proofs.YtoiidhkpbekpiaaDoor

