/- What byteOf and key answer. -/
import Derived.Test.YtpljlejmcojlaaaDoorShaTold
namespace Go.Proofs.YtpljlejmcojlaaaDoor
open Go.RowKit

def digS : ByteArray := ⟨#[48, 49, 50, 51, 52, 53, 54, 55, 56, 57, 97, 98, 99, 100, 101, 102]⟩
def dig (c : Nat) : Nat := [48, 49, 50, 51, 52, 53, 54, 55, 56, 57, 97, 98, 99, 100, 101, 102].getD c 0
/-- The number behind c digits were looked at. -/
def dN (x n : Nat) : Nat → Nat
  | 0 => n
  | c + 1 => if dig c = x then 16 * dN x n c + c else dN x n c
theorem dig_inj : ∀ c, c < 16 → ∀ d, d < 16 → dig c = dig d → c = d := by decide
theorem dN_is (x n : Nat) : ∀ c, c ≤ 16 → (∃ d, d < c ∧ dig d = x ∧ dN x n c = 16 * n + d) ∨ ((∀ d, d < c → dig d ≠ x) ∧ dN x n c = n)
  | 0, _ => Or.inr ⟨fun d hd => by omega, rfl⟩
  | c + 1, h => by
    rw [dN]
    rcases dN_is x n c (by omega) with ⟨d, hd, e, hv⟩ | ⟨hno, hv⟩
    · rw [if_neg (fun e2 => by have := dig_inj c (by omega) d (by omega) (e2.trans e.symm); omega)]
      exact Or.inl ⟨d, by omega, e, hv⟩
    · by_cases e : dig c = x
      · rw [if_pos e, hv]
        exact Or.inl ⟨c, by omega, e, rfl⟩
      · rw [if_neg e]
        refine Or.inr ⟨fun d hd => ?_, hv⟩
        by_cases e2 : d = c
        · subst e2; exact e
        · exact hno d (by omega)
theorem dN_le (x n c : Nat) (h : c ≤ 16) : dN x n c ≤ 16 * n + 15 := by
  rcases dN_is x n c h with ⟨d, hd, _, hv⟩ | ⟨_, hv⟩ <;> omega
def hexB (s : ByteArray) (i : Nat) : Nat := dN (s.data.toList.getD (2 * i + 1) 0).toNat (dN (s.data.toList.getD (2 * i) 0).toNat 0 16) 16
theorem index_dig (c : Nat) (hc : c < 16) (W : World) : (Instr.index 9 (.string digS) (.int .i64 (c : Int))).run Tryd.prog W = .ok (.int .u8 (dig c : Int)) W := by
  rcases (show c = 0 ∨ c = 1 ∨ c = 2 ∨ c = 3 ∨ c = 4 ∨ c = 5 ∨ c = 6 ∨ c = 7 ∨ c = 8 ∨ c = 9 ∨ c = 10 ∨ c = 11 ∨ c = 12 ∨ c = 13 ∨ c = 14 ∨ c = 15 by omega) with rfl | rfl | rfl | rfl | rfl | rfl | rfl | rfl | rfl | rfl | rfl | rfl | rfl | rfl | rfl | rfl <;> kernel_rfl
theorem index_str (s : ByteArray) (j : Nat) (hj : j < s.size) (W : World) : (Instr.index 9 (.string s) (.int .i64 (j : Int))).run Tryd.prog W = .ok (.int .u8 ((s.data.toList.getD j 0).toNat : Int)) W := by
  rw [run_index_string W 9 s .i64 j Tryd.underlying9]
  have e : (s.data.toList.getD j 0) = s[j]'hj := by
    rw [List.getD_eq_getElem?_getD, List.getElem?_eq_getElem (by simpa using hj)]
    rfl
  rw [e, dif_pos ⟨by omega, by omega⟩]
  rfl
set_option maxRecDepth 100000 in
set_option maxHeartbeats 1000000 in
theorem byteOf_calls (s : ByteArray) (i : Nat) (hi : i < 32) (hs : s.size = 64) (w : World) : Calls Tryd.prog 32 #[.string s, .int .i64 (i : Int)] w fun e w' => e = .returned (.int .u8 ((hexB s i : Nat) : Int)) ∧ ∃ k, w' = w.drewN k := by
  have HX0 := hide (fun W => index_str s (2 * i) (by omega) W)
  have HX1 := hide (fun W => index_str s (2 * i + 1) (by omega) W)
  have HB : Hid (hexB s i = dN (s.data.toList.getD (2 * i + 1) 0).toNat (dN (s.data.toList.getD (2 * i) 0).toNat 0 16) 16) := rfl
  generalize (s.data.toList.getD (2 * i) 0).toNat = x0 at *
  generalize (s.data.toList.getD (2 * i + 1) 0).toNat = x1 at *
  clear hs
  go_enter Tryd.func32, Tryd.ntmps32
  go_wp2
  go_loopw [5, 6] (fun n k wr => ∃ (j N m : Nat), j ≤ 2 ∧ k = .int .i64 (j : Int) ∧ n = .int .i64 (N : Int) ∧ Hid (N = if j = 0 then 0 else if j = 1 then dN x0 0 16 else dN x1 (dN x0 0 16) 16) ∧ N ≤ 255 ∧ wr = w.drewN m) (fun _ k _ => 2 - (intOf k).toNat)
  case atStart => exact ⟨0, 0, 0, by omega, rfl, rfl, rfl, by omega, rfl⟩
  case round =>
    obtain ⟨j, N, m, hj, rfl, rfl, HN, hN, rfl⟩ := hrel
    by_cases hj2 : j < 2
    · obtain ⟨x, hx⟩ : ∃ x, x = if j = 0 then x0 else x1 := ⟨_, rfl⟩
      have hidx : ∀ W, (Instr.index 9 (.string s) (.int .i64 (2 * (i : Int) + (j : Int)))).run Tryd.prog W = .ok (.int .u8 (x : Int)) W := fun W => by
        rcases (show j = 0 ∨ j = 1 by omega) with rfl | rfl
        · rw [hx, if_pos rfl]
          have := unhide HX0 W
          rw [show ((2 * i : Nat) : Int) = 2 * (i : Int) + ((0 : Nat) : Int) by omega] at this
          exact this
        · rw [hx, if_neg (by decide)]
          have := unhide HX1 W
          rw [show ((2 * i + 1 : Nat) : Int) = 2 * (i : Int) + ((1 : Nat) : Int) by omega] at this
          exact this
      have hN15 : N ≤ 15 := by
        have h1 := HN.out
        have := dN_le x0 0 16 (Nat.le_refl _)
        rcases (show j = 0 ∨ j = 1 by omega) with rfl | rfl
        · rw [if_pos rfl] at h1; omega
        · rw [if_neg (by decide), if_pos rfl] at h1; omega
      have HXX := hide hx
      clear hx
      go_wp2
      go_loopw [5, 7] (fun n c wr => ∃ (d m2 : Nat), d ≤ 16 ∧ c = .int .i64 (d : Int) ∧ n = .int .i64 ((dN x N d : Nat) : Int) ∧ wr = w.drewN m2) (fun _ c _ => 16 - (intOf c).toNat)
      case atStart => exact ⟨0, m, by omega, rfl, rfl, rfl⟩
      case round =>
        obtain ⟨d, m2, hd, rfl, rfl, rfl⟩ := hrel
        have hle := dN_le x N d hd
        by_cases hd16 : d < 16
        · have hdig := index_dig d hd16
          unfold digS at hdig
          have HS : Hid (dN x N (d + 1) = if dig d = x then 16 * dN x N d + d else dN x N d) := rfl
          generalize dN x N d = M at *
          generalize dig d = y at *
          have hd0 : (0 : Int) ≤ (d : Int) := by omega
          have hij : (0 : Int) ≤ (i : Int) := by omega
          by_cases hyx : y = x
          · have hb : ((y : Int) == (x : Int)) = true := by simp [hyx]
            go_wp2
            go_quiet (fail)
            go_wp2
            exact ⟨⟨d + 1, _, by omega, by go_num, by rw [HS.out, if_pos hyx]; go_num, rfl⟩, by simp [intOf]; omega⟩
          · have hb : ((y : Int) == (x : Int)) = false := by simp; omega
            go_wp2
            go_quiet (fail)
            go_wp2
            exact ⟨⟨d + 1, _, by omega, by go_num, by rw [HS.out, if_neg hyx], rfl⟩, by simp [intOf]; omega⟩
        · have hde : d = 16 := by omega
          rw [hde] at hle ⊢
          have HNX : Hid (dN x N 16 = if j + 1 = 0 then 0 else if j + 1 = 1 then dN x0 0 16 else dN x1 (dN x0 0 16) 16) := by
            show _ = _
            have h1 := HN.out
            have h2 := HXX.out
            rcases (show j = 0 ∨ j = 1 by omega) with rfl | rfl
            · rw [if_pos rfl] at h1 h2; rw [h1, h2]; rfl
            · rw [if_neg (by decide)] at h2; rw [if_neg (by decide), if_pos rfl] at h1; rw [h1, h2]; rfl
          generalize dN x N 16 = M at *
          clear hde
          go_wp2
          exact ⟨⟨j + 1, M, m2, by omega, by go_num, rfl, HNX, by omega, rfl⟩, by simp [intOf]; omega⟩
    · have hje : j = 2 := by omega
      have HNE : Hid (hexB s i = N) := by
        show _ = _
        have h1 := HN.out
        rw [hje, if_neg (by decide), if_neg (by decide)] at h1
        rw [h1, HB.out]
      clear hje
      go_wp2
      go_ret
      exact ⟨by rw [HNE.out]; congr 2, m, rfl⟩
def keyL (s : ByteArray) (k : Nat) : List Int := (List.range k).map fun i => ((hexB s i : Nat) : Int)
theorem keyL_succ (s : ByteArray) (k : Nat) : keyL s (k + 1) = keyL s k ++ [((hexB s k : Nat) : Int)] := by simp [keyL, List.range_succ]
theorem keyL_len (s : ByteArray) (k : Nat) : (keyL s k).length = k := by simp [keyL]
set_option maxRecDepth 100000 in
set_option maxHeartbeats 1000000 in
theorem hexkey_calls (s : ByteArray) (hs : s.size = 64) (w : World) : Calls Tryd.prog 23 #[.string s] w fun e w' => e = .returned (.agg ((keyL s 32).map (Value.int .u8)).toArray) ∧ Below w.heap.size w w' := by
  have hR1 := Arr.new w (row32 []) 28
  have hN := Arr.new (w.alloc (.cells (row32 []).toArray 28)) (row32 []) 28
  rw [size_alloc] at hN
  have hR2 := hR1.alloc (.cells (row32 []).toArray 28)
  have hB2 := below_then (lit_below w (.cells (row32 []).toArray 28)) (lit_below _ (.cells (row32 []).toArray 28))
  have HBY : Hid (∀ (i : Nat) (W : World), i < 32 → Calls Tryd.prog 32 #[.string s, .int .i64 (i : Int)] W fun e w' => e = .returned (.int .u8 ((hexB s i : Nat) : Int)) ∧ ∃ k, w' = W.drewN k) := fun i W hi => byteOf_calls s i hi hs W
  clear hs hR1
  go_enter Tryd.func23, Tryd.ntmps23
  go_wp2
  go_loopw [4] (fun i wr => ∃ t : Nat, t ≤ 32 ∧ i = .int .i64 (t : Int) ∧ Arr wr (w.heap.size + 1) 28 (row32 (keyL s t)) ∧ Arr wr w.heap.size 28 (row32 []) ∧ Below w.heap.size w wr) (fun i _ => 32 - (intOf i).toNat)
  case atStart => exact ⟨0, by omega, rfl, hN, hR2, hB2⟩
  case round =>
    clear hN hR2 hB2
    obtain ⟨t, ht, rfl, hA, hR, hx⟩ := hrel
    by_cases ht32 : t < 32
    · have htI : (t : Int) < 32 := by omega
      have ht0 : (0 : Int) ≤ (t : Int) := by omega
      have hll : t < (row32 (keyL s t)).length := by rw [row32_len (by rw [keyL_len]; omega)]; exact ht32
      have hc := hA.cell t
      rw [List.getElem?_eq_getElem hll] at hc
      have hf := hA.frozen t
      have HST : Hid ((row32 (keyL s t)).set t (.int .u8 ((hexB s t : Nat) : Int)) = row32 (keyL s (t + 1))) := by
        show _ = _
        have := row32_set (l := keyL s t) (x := ((hexB s t : Nat) : Int)) (by rw [keyL_len]; exact ht32)
        rw [keyL_len] at this
        rw [this, keyL_succ]
      generalize (row32 (keyL s t))[t]'hll = old at *
      have HB1 : Hid (Calls Tryd.prog 32 #[.string s, .int .i64 (t : Int)] wr fun e w' => e = .returned (.int .u8 ((hexB s t : Nat) : Int)) ∧ ∃ k, w' = wr.drewN k) := unhide HBY t wr ht32
      generalize hexB s t = hb at *
      clear hll
      go_wp2_with (go_at_call 32; refine (unhide HB1).mono ?_; rintro e w2 ⟨rfl, kk, rfl⟩)
      have hA2 : Arr (wr.drewN kk) (w.heap.size + 1) 28 (row32 (keyL s t)) := hA
      have hR2 : Arr (wr.drewN kk) w.heap.size 28 (row32 []) := hR
      refine ⟨⟨t + 1, by omega, by go_num, ?_, ?_, ?_⟩, by simp [intOf]; omega⟩
      · rw [← HST.out]; exact hA2.set t _
      · exact hR2.other _ _ (by show _ ≠ w.heap.size + 1; omega)
      · exact (below_drewN hx kk).setCell (p := ⟨w.heap.size + 1, t, none⟩) (by show _ ≤ w.heap.size + 1; omega) _
    · have hte : t = 32 := by omega
      have er : row32 (keyL s t) = (keyL s 32).map (Value.int .u8) := by
        rw [hte]
        unfold row32
        rw [keyL_len]
        simp
      rw [er] at hA
      have hi48 : (Tryd.prog.info? 28).map (·.size) = some ((keyL s 32).map (Value.int .u8)).length := by rw [List.length_map, keyL_len]; kernel_rfl
      have hl48 : (row32 []).length = ((keyL s 32).map (Value.int .u8)).length := by rw [List.length_map, keyL_len]; rfl
      have hone48 := u8_one (keyL s 32)
      generalize hKV : (keyL s 32).map (Value.int .u8) = KV at *
      have HKV := hide hKV
      clear hte er hKV
      go_wp2_with (first
        | refine wpList_loadArr rfl (.tmp 3) 28 rfl rfl hA Tryd.underlying28 hi48 ?_
        | (refine wpList_storeArr2 (cs' := KV) rfl (.tmp 2) (.tmp 14) 28 rfl rfl rfl hR hi48 hl48 hone48 ?_; intro w8 hR8 hw8))
      exact bodyPost_ret (v := .agg KV.toArray) (results_arr rfl rfl hR8 Tryd.underlying28 hi48) rfl ⟨by rw [HKV.out], hw8.below _ _ hx (Nat.le_refl _)⟩
end Go.Proofs.YtpljlejmcojlaaaDoor
