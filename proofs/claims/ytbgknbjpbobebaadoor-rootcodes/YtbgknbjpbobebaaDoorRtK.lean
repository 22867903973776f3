/- The document's read, key, ref and Decode. -/
import Derived.Test.YtbgknbjpbobebaaDoorRtJ
namespace Go.Proofs.YtbgknbjpbobebaaDoor
open Go.RowKit Go.Maps

theorem or_addS {A c : Nat} (h : A % 256 = 0) (hc : c < 256) : A ||| c = A + c := by
  have h1 := Nat.two_pow_add_eq_or_of_lt (i := 8) (b := c) (by omega) (A / 256)
  rw [show 2 ^ 8 * (A / 256) = A by omega] at h1
  exact h1.symm
theorem sor_low {X L c : Int} (hX : X = IntKind.i64.wrap L) (h0 : 0 ≤ c) (h1 : c ≤ 255) : bits .or .i64 (wrap64 (X * 256)) c = IntKind.i64.wrap (c + 256 * L) := by
  show IntKind.i64.wrap (((BitVec.ofInt 64 (wrap64 (X * 256)) ||| BitVec.ofInt 64 c).toNat : Nat) : Int) = _
  rw [BitVec.toNat_or, BitVec.toNat_ofInt, BitVec.toNat_ofInt]
  have e1 : (wrap64 (X * 256) % ((2 ^ 64 : Nat) : Int)).toNat % 256 = 0 := by
    unfold wrap64
    have : ((2 ^ 64 : Nat) : Int) = 18446744073709551616 := by decide
    rw [this]
    omega
  have e2 : (c % ((2 ^ 64 : Nat) : Int)).toNat = c.toNat := by
    have : ((2 ^ 64 : Nat) : Int) = 18446744073709551616 := by decide
    rw [this]
    omega
  rw [e2, or_addS e1 (by omega), hX, IntKind.wrap_i64, IntKind.wrap_i64, IntKind.wrap_i64]
  unfold wrap64
  have : ((2 ^ 64 : Nat) : Int) = 18446744073709551616 := by decide
  rw [this]
  omega
theorem leN_cons_atS {b : List Int} {k n q : Nat} (hq : q < n) (hn : k + n ≤ b.length) : leN ((b.drop (k + q)).take (n - q)) = b[k + q]?.getD 0 + 256 * leN ((b.drop (k + (q + 1))).take (n - (q + 1))) := by
  rw [drop_at (show k + q < b.length by omega), show n - q = (n - (q + 1)) + 1 by omega, List.take_succ_cons, leN]
  rfl
set_option maxRecDepth 100000 in
set_option maxHeartbeats 1000000 in
theorem rread_calls18 {w : World} {v : Value} {b : List Int} (h : IsB w v b) {k n : Nat} (h1 : 1 ≤ n) (h8 : n ≤ 8) (hs : k + n ≤ b.length) :
    Calls Tryd.prog 64 #[v, .int .i64 (k : Int), .int .i64 (n : Int)] w fun e w' => e = .returned (.int .i64 (IntKind.i64.wrap (leN ((b.drop k).take n)))) ∧ w' = w := by
  obtain ⟨hby, a, cp, rfl, hl, hm, _, hcl⟩ := h
  obtain ⟨b2, off2, rfl, hcl2⟩ := hcl (by omega)
  have HCL := hide hcl2
  have HBY := hide hby
  clear hcl2
  obtain ⟨m, hm'⟩ : ∃ m, m = b.length := ⟨_, rfl⟩
  rw [← hm'] at hl hs ⊢
  have HM := hide hm'
  clear hcl hby hm'
  go_enter Tryd.func64, Tryd.ntmps64
  go_wp2
  go_loop [7, 8] (fun v i => ∃ (j : Nat) (X x : Int), j ≤ n ∧ i = .int .i64 x ∧ v = .int .i64 X ∧ Hid (x = (j : Int) - 1) ∧ Hid (X = IntKind.i64.wrap (leN ((b.drop (k + j)).take (n - j))))) (fun _ i => (intOf i + 1).toNat)
  case atStart => exact ⟨n, 0, _, Nat.le_refl _, rfl, rfl, by show _ = _; rfl, by show _ = _; rw [Nat.sub_self, List.take_zero]; rfl⟩
  case round =>
    obtain ⟨j, X, x, hj, rfl, rfl, HX, HE⟩ := hrel
    by_cases h0 : j = 0
    · have hx : decide (0 ≤ x) = false := by rw [HX.out, h0]; decide
      have HF : Hid (X = IntKind.i64.wrap (leN ((b.drop k).take n))) := by have := HE.out; rw [h0, Nat.add_zero, Nat.sub_zero] at this; exact this
      clear HE HX
      go_wp2
      go_ret
      exact ⟨by rw [← HF.out]; rfl, rfl⟩
    · obtain ⟨q, rfl⟩ : ∃ q, j = q + 1 := ⟨j - 1, by omega⟩
      obtain rfl : x = (q : Int) := by rw [HX.out]; omega
      have hbk := unhide HBY (k + q)
      obtain ⟨c, hcv⟩ : ∃ c, c = b[k + q]?.getD 0 := ⟨_, rfl⟩
      rw [← hcv] at hbk
      have hce : w.cell? ⟨b2, off2 + (k + q), none⟩ = some (.int .u8 c) := by
        rw [unhide HCL (k + q) (by rw [← HM.out]; omega), hcv, List.getD_eq_getElem?_getD]
      have hor := sor_low HE.out hbk.1 hbk.2
      have HN1 : Hid (IntKind.i64.wrap (c + 256 * leN ((b.drop (k + (q + 1))).take (n - (q + 1)))) = IntKind.i64.wrap (leN ((b.drop (k + q)).take (n - q)))) := by show _ = _; rw [leN_cons_atS (k := k) (n := n) (q := q) (by omega) (by rw [← HM.out]; omega), ← hcv]
      obtain ⟨Y, hY⟩ : ∃ Y, Y = IntKind.i64.wrap (c + 256 * leN ((b.drop (k + (q + 1))).take (n - (q + 1)))) := ⟨_, rfl⟩
      rw [← hY] at hor HN1
      clear HE HX hcv hY
      go_wp2
      go_round
      case rel => exact ⟨q, Y, _, by omega, rfl, rfl, by show _ = _; rfl, HN1⟩
      case measure => simp [intOf]
def prtS (b : List Int) (o k : Nat) : List Int := (b.drop o).take k ++ List.replicate (32 - k) 0
theorem prtS_len {b : List Int} {o k : Nat} (hk : k ≤ 32) (hl : o + 32 ≤ b.length) : (prtS b o k).length = 32 := by simp [prtS]; omega
theorem prtS_zero (b : List Int) (o : Nat) : prtS b o 0 = List.replicate 32 0 := by simp [prtS]
theorem prtS_all (b : List Int) (o : Nat) : prtS b o 32 = (b.drop o).take 32 := by simp [prtS]
theorem prtS_step {b : List Int} {o k : Nat} (hk : k < 32) (hl : o + 32 ≤ b.length) : (prtS b o k).set k (b.getD (o + k) 0) = prtS b o (k + 1) := by
  have h1 : ((b.drop o).take k).length = k := by simp; omega
  unfold prtS
  rw [List.set_append_right _ _ (by omega), h1, Nat.sub_self, show 32 - k = (32 - (k + 1)) + 1 by omega, List.replicate_succ, List.set_cons_zero]
  have h2 : (b.drop o).take (k + 1) = (b.drop o).take k ++ [b.getD (o + k) 0] := by
    rw [take_nextS (by simp; omega), List.getD_eq_getElem?_getD, List.getElem?_drop, ← List.getD_eq_getElem?_getD]
  rw [h2, List.append_assoc]
  rfl
theorem prtS_by {b : List Int} (hb : By8 b) (o k : Nat) : By8 (prtS b o k) := ((hb.drop o).take k).app (By8.zero _)
set_option maxRecDepth 100000 in
set_option maxHeartbeats 2000000 in
theorem rkey_calls {w : World} {v : Value} {b : List Int} (h : IsB w v b) {k : Nat} (hs : k + 32 ≤ b.length) (hb : b.length ≤ 1000) :
    Calls Tryd.prog 65 #[v, .int .i64 (k : Int)] w fun e w' => e = .returned (.agg (((b.drop k).take 32).map (Value.int .u8)).toArray) ∧ Below w.heap.size w w' := by
  obtain ⟨hby, a, cp, rfl, hl, hm, _, hcl⟩ := id h
  obtain ⟨b2, off2, rfl, _⟩ := hcl (by omega)
  have HCL : Hid (∀ W, Below w.heap.size w W → ∀ j, j < b.length → W.cell? ⟨b2, off2 + j, none⟩ = some (.int .u8 (b.getD j 0))) := hide (fun W hW j hj => by
    obtain ⟨_, a', cp', hv, _, _, _, hc⟩ := h.below hW
    obtain ⟨b3, off3, ha, hc3⟩ := hc (by omega)
    injection hv with e1 e2 e3
    rw [ha] at e1
    injection e1 with e1
    injection e1 with e1 e4
    subst e1 e4
    exact hc3 j hj)
  clear hcl
  have hA0 := Arr.new w z32K 23
  have hb0 := jalloc_below w (.cells z32K.toArray 23)
  obtain ⟨w1, hw1⟩ : ∃ w1, w1 = w.alloc (.cells z32K.toArray 23) := ⟨_, rfl⟩
  rw [← hw1] at hA0 hb0
  have hA1 := Arr.new w1 z32K 23
  have hb1 := jalloc_below w1 (.cells z32K.toArray 23)
  obtain ⟨w2, hw2⟩ : ∃ w2, w2 = w1.alloc (.cells z32K.toArray 23) := ⟨_, rfl⟩
  rw [← hw2] at hA1 hb1
  have HW1 := hide hw1
  have HW2 := hide hw2
  obtain ⟨g4, hg4⟩ : ∃ g, g = w.heap.size := ⟨_, rfl⟩
  obtain ⟨g5, hg5⟩ : ∃ g, g = w1.heap.size := ⟨_, rfl⟩
  rw [← hg4] at hA0
  rw [← hg5] at hA1
  have HG4 := hide hg4
  have HG5 := hide hg5
  have hlt := hA0.lt
  have HNE : Hid (g4 ≠ g5 ∧ w.heap.size ≤ g4 ∧ w.heap.size ≤ g5) := hide (by have := hb0.size; omega)
  have ez : z32K = (prtS b k 0).map (Value.int .u8) := by rw [prtS_zero, List.map_replicate]; rfl
  have HA5 : Hid (Arr w2 g5 23 ((prtS b k 0).map (Value.int .u8))) := hide (by rw [← ez]; exact hA1)
  have HA4 := hide (hA0.below hb1)
  have HBB := hide (below_then hb0 hb1)
  have HST : Hid (∀ q, q < 32 → ((prtS b k q).map (Value.int .u8)).set q (.int .u8 (b.getD (k + q) 0)) = (prtS b k (q + 1)).map (Value.int .u8)) := hide (fun q hq => by rw [← prtS_step hq hs, List.map_set])
  have HLN : Hid (∀ q, q ≤ 32 → ((prtS b k q).map (Value.int .u8)).length = 32) := hide (fun q hq => by rw [List.length_map, prtS_len hq hs])
  have HAL : Hid ((prtS b k 32).map (Value.int .u8) = ((b.drop k).take 32).map (Value.int .u8)) := hide (by rw [prtS_all])
  have hrl : ((b.drop k).take 32).length = 32 := by simp; omega
  have hinfK := infoKof hrl
  have hone : ∀ u ∈ ((b.drop k).take 32).map (Value.int .u8), u.oneCell' = true := by
    intro u hu
    obtain ⟨x, _, rfl⟩ := List.mem_map.1 hu
    rfl
  have hlen : z32K.length = (((b.drop k).take 32).map (Value.int .u8)).length := by rw [List.length_map, hrl]; rfl
  generalize ((b.drop k).take 32).map (Value.int .u8) = rc at *
  generalize hbn : b.length = bn at *
  clear h hA0 hb0 hw1 hA1 hb1 hw2 hg4 hg5 hlt ez hrl hbn
  go_enter Tryd.func65, Tryd.ntmps65
  go_wp2_with (first
    | (refine wpList_allocJ rfl 23 rfl infoK0 ?_; first | rw [← HW1.out, ← HG4.out] | rw [← HW2.out, ← HG5.out])
    | fail)
  go_loopw [6] (fun i W => ∃ q : Nat, q ≤ 32 ∧ i = .int .i64 q ∧ Hid (Arr W g5 23 ((prtS b k q).map (Value.int .u8))) ∧ Hid (Arr W g4 23 z32K) ∧ Hid (Below w.heap.size w W)) (fun i _ => 32 - (intOf i).toNat)
  case atStart => exact ⟨0, by decide, rfl, HA5, HA4, HBB⟩
  case round =>
    clear HA5 HA4 HBB
    obtain ⟨q, hq, rfl, HA5, HA4, HB⟩ := hrel
    by_cases hlt : q < 32
    · have hcl := unhide HCL wr HB.out (k + q) (by omega)
      have HSQ := hide (unhide HST q hlt)
      have hc5 : ∃ u, wr.cell? ⟨g5, q, none⟩ = some u := ⟨((prtS b k q).map (Value.int .u8))[q]'(by rw [unhide HLN q hq]; exact hlt), by rw [HA5.out.cell, List.getElem?_eq_getElem]⟩
      obtain ⟨u0, hc5⟩ := hc5
      have hfr := HA5.out.frozen q
      have hqI : (q : Int) < 32 := by omega
      generalize b.getD (k + q) 0 = x at *
      have HA5' : Hid (Arr (wr.setCell ⟨g5, q, none⟩ (.int .u8 x)) g5 23 ((prtS b k (q + 1)).map (Value.int .u8))) := hide (by rw [← HSQ.out]; exact sarr_set HA5.out _)
      have HA4' : Hid (Arr (wr.setCell ⟨g5, q, none⟩ (.int .u8 x)) g4 23 z32K) := hide (arr_grown HA4.out (sgrown_set _ _ _ _) (by simpa using HNE.out.1))
      have HB' : Hid (Below w.heap.size w (wr.setCell ⟨g5, q, none⟩ (.int .u8 x))) := hide (jbelow_grown HB.out (sgrown_set _ _ _ _) HB.out.size HNE.out.2.2)
      clear HA5 HA4 HB HSQ
      go_wp2_with fail
      refine ⟨⟨q + 1, by omega, by go_num, HA5', HA4', HB'⟩, ?_⟩
      simp [intOf]
      omega
    · have HQ : Hid (q = 32) := hide (by omega)
      have hA9 : Arr wr g5 23 rc := by have := HA5.out; rw [HQ.out, HAL.out] at this; exact this
      have hrg := hA9.rangeJ
      have hqI : decide ((q : Int) < 32) = false := by simp; omega
      clear HA5 hA9
      go_wp2_with (first
        | (refine wpList_loadJ rfl 23 (.tmp 5) rfl _ 0 rfl rc _ hrg Tryd.underlying23 rfl hinfK ?_)
        | (refine wpList_storeJ rfl (.tmp 4) (.tmp 19) 23 rfl rfl rfl HA4.out hinfK hlen hone ?_; intro w9 hA9 hg9)
        | fail)
      have hA9' : Arr w9 g4 23 rc := hA9
      refine bodyPost_ret (results_rowJ rfl rfl hA9' Tryd.underlying23 rfl hinfK) rfl ?_
      exact ⟨rfl, jbelow_grown HB.out hg9 HB.out.size HNE.out.2.1⟩
end Go.Proofs.YtbgknbjpbobebaaDoor
