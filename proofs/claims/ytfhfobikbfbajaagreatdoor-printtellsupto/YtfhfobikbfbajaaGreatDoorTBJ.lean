/- The document's words behind one block. SHA-256 in plain numbers: the bytes laid out, block by block. -/
import Derived.Test.YtfhfobikbfbajaaGreatDoorTBI
import Derived.Test.YtfhfobikbfbajaaGreatDoorTAB
namespace Go.Proofs.YtfhfobikbfbajaaGreatDoor
open Go.RowKit

theorem rword_calls (b off n cap : Nat) (bs : List Int) (A t : Nat) (w : World) (hn : n ≤ cap) (hm : cap ≤ 9223372036854775807) (hA : A + 4 ≤ n) (hby : ∀ j : Nat, 0 ≤ bs.getD j 0 ∧ bs.getD j 0 ≤ 255)
    (hcell : ∀ j, j < 4 → w.cell? ⟨b, off + (A + j), none⟩ = some (.int .u8 (bs.getD (4 * t + j) 0))) :
    Calls Tryz.prog 70 #[.slice (some ⟨b, off, none⟩) n cap, .int .i64 (A : Int)] w fun e w' => e = .returned (.int .u32 (word4 bs t)) ∧ w' = w.drew := by
  have h0 := hcell 0 (by omega)
  have h1 := hcell 1 (by omega)
  have h2 := hcell 2 (by omega)
  have h3 := hcell 3 (by omega)
  have b0 := hby (4 * t)
  have b1 := hby (4 * t + 1)
  have b2 := hby (4 * t + 2)
  have b3 := hby (4 * t + 3)
  simp only [Nat.add_zero] at h0 h1 h2 h3
  have HW : Hid (word4 bs t = bits .or .u32 (bits .or .u32 (bits .or .u32 (bs.getD (4 * t) 0 * 16777216) (bs.getD (4 * t + 1) 0 * 65536)) (bs.getD (4 * t + 2) 0 * 256)) (bs.getD (4 * t + 3) 0)) := rfl
  generalize bs.getD (4 * t) 0 = x0 at *
  generalize bs.getD (4 * t + 1) 0 = x1 at *
  generalize bs.getD (4 * t + 2) 0 = x2 at *
  generalize bs.getD (4 * t + 3) 0 = x3 at *
  clear hcell hby
  go_enter Tryz.func70, Tryz.ntmps70
  go_wp2_with fail
  go_region
  go_wp2
  go_ret
  rw [HW.out]
  exact ⟨rfl, rfl⟩

/-- The blocks of the words, of the table and of the answer. -/
structure Blk (w wr : World) (sv KT : List Value) : Prop where
  s : Arr wr w.heap.size 98 sv
  k : Arr wr (w.heap.size + 1) 99 KT
  r : Arr wr (w.heap.size + 1 + 1) 98 (List.replicate 8 (.int .u32 0))
  b : Below w.heap.size w wr
theorem Blk.drew {w wr : World} {sv KT : List Value} (h : Blk w wr sv KT) : Blk w wr.drew sv KT := ⟨h.s.drew, h.k.drew, h.r.drew, h.b.drew⟩
theorem Blk.set {w wr : World} {sv KT : List Value} (h : Blk w wr sv KT) (g j : Nat) (u : Value) (hg : w.heap.size + 1 + 1 < g) : Blk w (wr.setCell ⟨g, j, none⟩ u) sv KT :=
  ⟨h.s.other _ _ (show w.heap.size ≠ g by omega), h.k.other _ _ (show w.heap.size + 1 ≠ g by omega), h.r.other _ _ (show w.heap.size + 1 + 1 ≠ g by omega), h.b.setCell (p := ⟨g, j, none⟩) (show w.heap.size ≤ g by omega) _⟩
theorem Blk.alloc {w wr : World} {sv KT : List Value} (h : Blk w wr sv KT) (o : Obj) : Blk w (wr.alloc o) sv KT := ⟨h.s.alloc o, h.k.alloc o, h.r.alloc o, h.b.alloc h.b.size o⟩
theorem Blk.wrote {w wr wr' : World} {sv KT : List Value} {g : Nat} (h : Blk w wr sv KT) (hw : Wrote wr wr' g) (hg : w.heap.size + 1 + 1 < g) : Blk w wr' sv KT :=
  ⟨h.s.wrote hw (by omega), h.k.wrote hw (by omega), h.r.wrote hw (by omega), hw.below _ _ h.b (by omega)⟩
theorem Blk.setS {w wr : World} {sv KT : List Value} (h : Blk w wr sv KT) (j : Nat) (u : Value) : Blk w (wr.setCell ⟨w.heap.size, j, none⟩ u) (sv.set j u) KT :=
  ⟨h.s.set j u, h.k.other _ _ (show w.heap.size + 1 ≠ w.heap.size by omega), h.r.other _ _ (show w.heap.size + 1 + 1 ≠ w.heap.size by omega), h.b.setCell (p := ⟨w.heap.size, j, none⟩) (Nat.le_refl _) _⟩
/-- The j-th word. -/
def H8.at_ (s : H8) (j : Nat) : Int := [s.a, s.b, s.c, s.d, s.e, s.f, s.g, s.h].getD j 0
theorem H8.vals_at (s : H8) : ∀ j, j < 8 → s.vals[j]? = some (.int .u32 (s.at_ j))
  | 0, _ => rfl | 1, _ => rfl | 2, _ => rfl | 3, _ => rfl | 4, _ => rfl | 5, _ => rfl | 6, _ => rfl | 7, _ => rfl
  | _ + 8, h => by omega
theorem H8.plus_at (s t : H8) : ∀ j, j < 8 → (s.plus t).at_ j = (s.at_ j + t.at_ j) % 4294967296
  | 0, _ => rfl | 1, _ => rfl | 2, _ => rfl | 3, _ => rfl | 4, _ => rfl | 5, _ => rfl | 6, _ => rfl | 7, _ => rfl
  | _ + 8, h => by omega
/-- The first k of one list, the rest of the other one. -/
def mixV (sv pv : List Value) (k : Nat) : List Value := pv.take k ++ sv.drop k
theorem mixV_at {sv pv : List Value} {k : Nat} (h1 : k ≤ pv.length) : (mixV sv pv k)[k]? = sv[k]? := by
  unfold mixV
  rw [List.getElem?_append_right (by simp; omega), List.getElem?_drop]
  congr 1
  simp; omega
theorem mixV_set {sv pv : List Value} {k : Nat} {u : Value} (h1 : k < pv.length) (h2 : k < sv.length) (hu : pv[k]? = some u) : (mixV sv pv k).set k u = mixV sv pv (k + 1) := by
  unfold mixV
  rw [List.set_append_right _ _ (by simp; omega), List.take_add_one, hu]
  have e : k - (pv.take k).length = 0 := by simp; omega
  rw [e, List.drop_eq_getElem_cons h2, List.set_cons_zero, List.append_assoc]
  rfl
theorem size_alloc (w : World) (o : Obj) : (w.alloc o).heap.size = w.heap.size + 1 := by simp
theorem blk_new (w : World) (sv KT : List Value) :
    Blk w ((((w.alloc (.cells sv.toArray 98)).alloc (.cells KT.toArray 99)).alloc (.cells (List.replicate 8 (.int .u32 0)).toArray 98)).alloc (.cells (row64 []).toArray 99)) sv KT ∧
    Arr ((((w.alloc (.cells sv.toArray 98)).alloc (.cells KT.toArray 99)).alloc (.cells (List.replicate 8 (.int .u32 0)).toArray 98)).alloc (.cells (row64 []).toArray 99)) (w.heap.size + 1 + 1 + 1) 99 (row64 []) := by
  have h1 := Arr.new w sv 98
  have h2 := Arr.new (w.alloc (.cells sv.toArray 98)) KT 99
  have h3 := Arr.new ((w.alloc (.cells sv.toArray 98)).alloc (.cells KT.toArray 99)) (List.replicate 8 (.int .u32 0)) 98
  have h4 := Arr.new (((w.alloc (.cells sv.toArray 98)).alloc (.cells KT.toArray 99)).alloc (.cells (List.replicate 8 (.int .u32 0)).toArray 98)) (row64 []) 99
  rw [size_alloc] at h2
  rw [size_alloc, size_alloc] at h3
  rw [size_alloc, size_alloc, size_alloc] at h4
  have b1 := (Below.refl w.heap.size w).alloc (Nat.le_refl _) (.cells sv.toArray 98)
  have b2 := b1.alloc b1.size (.cells KT.toArray 99)
  have b3 := b2.alloc b2.size (.cells (List.replicate 8 (.int .u32 0)).toArray 98)
  exact ⟨⟨((h1.alloc _).alloc _).alloc _, (h2.alloc _).alloc _, h3.alloc _, b3.alloc b3.size _⟩, h4⟩

set_option maxRecDepth 100000 in
set_option maxHeartbeats 2000000 in
theorem rblock_in (s : H8) (bb off n cap A : Nat) (bs : List Int) (w : World) (hn : n ≤ cap) (hm : cap ≤ 9223372036854775807) (hA : A + 64 ≤ n) (hby : ∀ j : Nat, 0 ≤ bs.getD j 0 ∧ bs.getD j 0 ≤ 255)
    (hcell : ∀ j, j < 64 → w.cell? ⟨bb, off + (A + j), none⟩ = some (.int .u8 (bs.getD j 0))) (hs : s.ok) :
    Calls Tryz.prog 47 #[.agg s.vals.toArray, .slice (some ⟨bb, off, none⟩) n cap, .int .i64 (A : Int), .agg (kTab.map (Value.int .u32)).toArray] w fun e w' => e = .returned (.agg (blockF s bs).vals.toArray) ∧ Below w.heap.size w w' := by
  obtain ⟨a0, b0, c0, d0, e0, f0, g0, h0⟩ := s
  show Calls Tryz.prog _ #[.agg #[.int .u32 a0, .int .u32 b0, .int .u32 c0, .int .u32 d0, .int .u32 e0, .int .u32 f0, .int .u32 g0, .int .u32 h0], _, _, _] w _
  have HC := hide hcell
  have HBY := hide hby
  have HS0 := hide hs
  obtain ⟨KT, hKT⟩ : ∃ KT, KT = kTab.map (Value.int .u32) := ⟨_, rfl⟩
  rw [← hKT]
  have HKT := hide hKT
  clear hcell hby hs hKT
  go_enter Tryz.func47, Tryz.ntmps47
  go_wp2_with fail
  have hnew := blk_new w [.int .u32 a0, .int .u32 b0, .int .u32 c0, .int .u32 d0, .int .u32 e0, .int .u32 f0, .int .u32 g0, .int .u32 h0] KT
  go_loopw [10] (fun i wr => ∃ k : Nat, k ≤ 16 ∧ i = .int .i64 (k : Int) ∧ Blk w wr [.int .u32 a0, .int .u32 b0, .int .u32 c0, .int .u32 d0, .int .u32 e0, .int .u32 f0, .int .u32 g0, .int .u32 h0] KT ∧ Arr wr (w.heap.size + 1 + 1 + 1) 99 (row64 (sched bs k))) (fun i _ => 16 - (intOf i).toNat)
  case atStart => exact ⟨0, by omega, rfl, hnew.1, hnew.2⟩
  case round =>
    clear hnew
    obtain ⟨k, hk, rfl, hB, hW⟩ := hrel
    by_cases hk16 : k < 16
    · have HNX : Hid (sched bs (k + 1) = sched bs k ++ [word4 bs k]) := by
        show _ = _
        rw [sched, nextW, if_pos hk16]
      have hfr := hW.frozen k
      have hce := hW.cell k
      have hln := sched_len bs k
      rw [List.getElem?_eq_getElem (by rw [row64_len (by omega)]; omega)] at hce
      generalize (row64 (sched bs k))[k]'(by rw [row64_len (by omega)]; omega) = old at hce
      have HLN := hide hln
      obtain ⟨M, hM⟩ : ∃ M, M = A + 4 * k := ⟨_, rfl⟩
      have HCK : Hid (∀ W : World, W.heap = wr.heap → ∀ j, j < 4 → W.cell? ⟨bb, off + (M + j), none⟩ = some (.int .u8 (bs.getD (4 * k + j) 0))) := fun W hW' j hj => by
        have h := unhide HC (4 * k + j) (by omega)
        have e : ∀ a, W.cell? a = wr.cell? a := fun a => by unfold World.cell?; rw [hW']
        rw [e, hM, Nat.add_assoc A, (hB.b.cell (World.block_lt_of_cell? _ _ h)).trans h]
      have hAk : M + 4 ≤ n := by omega
      have q2 : (A : Int) + 4 * (k : Int) = (M : Int) := by omega
      have q1 : IntKind.i64.wrap (M : Int) = (M : Int) := IntWalk.i64_in _ (by omega)
      clear hM
      have hkI : (k : Int) < 64 := by omega
      have hkI0 : (0 : Int) ≤ (k : Int) := by omega
      clear hln
      go_wp2_with (go_at_call 70; refine (rword_calls bb off n cap bs M k _ hn hm hAk (unhide HBY) (unhide HCK _ rfl)).mono ?_; rintro e w1 ⟨rfl, hw1⟩; obtain rfl := hw1.symm)
      exact ⟨⟨k + 1, by omega, by go_num, (hB.set _ k _ (by omega)).drew, by rw [HNX.out, ← row64_set (by have := HLN.out; omega), HLN.out]; exact (hW.set k _).drew⟩, by simp [intOf]; omega⟩
    · have hke : k = 16 := by omega
      have HKE := hide hke
      clear hke
      go_wp2_with fail
      go_loopw [11] (fun i wr => ∃ k : Nat, 16 ≤ k ∧ k ≤ 64 ∧ i = .int .i64 (k : Int) ∧ Blk w wr [.int .u32 a0, .int .u32 b0, .int .u32 c0, .int .u32 d0, .int .u32 e0, .int .u32 f0, .int .u32 g0, .int .u32 h0] KT ∧ Arr wr (w.heap.size + 1 + 1 + 1) 99 (row64 (sched bs k))) (fun i _ => 64 - (intOf i).toNat)
      case atStart => exact ⟨16, by omega, by omega, rfl, hB, by rw [← HKE.out]; exact hW⟩
      case round =>
        clear hB hW hk hk16
        obtain ⟨k, hk16, hk, rfl, hB, hW⟩ := hrel
        by_cases hk64 : k < 64
        · have hln := sched_len bs k
          have h2 := hW.cell (k - 2)
          have h7 := hW.cell (k - 7)
          have h15 := hW.cell (k - 15)
          have h16 := hW.cell (k - 16)
          rw [row64_at (by omega)] at h2 h7 h15 h16
          have b2 := sched_bd bs k (k - 2)
          have b15 := sched_bd bs k (k - 15)
          have HNX : Hid (sched bs (k + 1) = sched bs k ++ [(((sig1 ((sched bs k).getD (k - 2) 0) + (sched bs k).getD (k - 7) 0) % 4294967296 + sig0 ((sched bs k).getD (k - 15) 0)) % 4294967296 + (sched bs k).getD (k - 16) 0) % 4294967296]) := by
            show _ = _
            rw [sched, nextW, if_neg (by omega)]
          generalize (sched bs k).getD (k - 2) 0 = x2 at *
          generalize (sched bs k).getD (k - 7) 0 = x7 at *
          generalize (sched bs k).getD (k - 15) 0 = x15 at *
          generalize (sched bs k).getD (k - 16) 0 = x16 at *
          have hfr := hW.frozen k
          have hce := hW.cell k
          rw [List.getElem?_eq_getElem (by rw [row64_len (by omega)]; omega)] at hce
          generalize (row64 (sched bs k))[k]'(by rw [row64_len (by omega)]; omega) = old at hce
          have HLN := hide hln
          clear hln
          obtain ⟨m2, hm2⟩ : ∃ m, m = k - 2 := ⟨_, rfl⟩
          rw [← hm2] at h2
          have e2 : (k : Int) - 2 = (m2 : Int) := by omega
          have q2 : IntKind.i64.wrap (m2 : Int) = (m2 : Int) := IntWalk.i64_in _ (by omega)
          have f2 : (m2 : Int) < 64 := by omega
          have g2 : (0 : Int) ≤ (m2 : Int) := by omega
          obtain ⟨m7, hm7⟩ : ∃ m, m = k - 7 := ⟨_, rfl⟩
          rw [← hm7] at h7
          have e7 : (k : Int) - 7 = (m7 : Int) := by omega
          have q7 : IntKind.i64.wrap (m7 : Int) = (m7 : Int) := IntWalk.i64_in _ (by omega)
          have f7 : (m7 : Int) < 64 := by omega
          have g7 : (0 : Int) ≤ (m7 : Int) := by omega
          obtain ⟨m15, hm15⟩ : ∃ m, m = k - 15 := ⟨_, rfl⟩
          rw [← hm15] at h15
          have e15 : (k : Int) - 15 = (m15 : Int) := by omega
          have q15 : IntKind.i64.wrap (m15 : Int) = (m15 : Int) := IntWalk.i64_in _ (by omega)
          have f15 : (m15 : Int) < 64 := by omega
          have g15 : (0 : Int) ≤ (m15 : Int) := by omega
          obtain ⟨m16, hm16⟩ : ∃ m, m = k - 16 := ⟨_, rfl⟩
          rw [← hm16] at h16
          have e16 : (k : Int) - 16 = (m16 : Int) := by omega
          have q16 : IntKind.i64.wrap (m16 : Int) = (m16 : Int) := IntWalk.i64_in _ (by omega)
          have f16 : (m16 : Int) < 64 := by omega
          have g16 : (0 : Int) ≤ (m16 : Int) := by omega
          have HK : Hid (m2 < k ∧ m7 < k ∧ m15 < k ∧ m16 < k) := by
            show _ ∧ _ ∧ _ ∧ _
            omega
          have fk : (k : Int) < 64 := by omega
          have gk : (0 : Int) ≤ (k : Int) := by omega
          clear hm2 hm7 hm15 hm16
          have r7 : ∀ w', Calls Tryz.prog 71 #[.int .u32 x15, .int .u64 7] w' fun e w2 => e = .returned (.int .u32 (rot x15 7)) ∧ w2 = w' := fun w' => rrotr_calls x15 7 (by decide) (by decide) w'
          have r18 : ∀ w', Calls Tryz.prog 71 #[.int .u32 x15, .int .u64 18] w' fun e w2 => e = .returned (.int .u32 (rot x15 18)) ∧ w2 = w' := fun w' => rrotr_calls x15 18 (by decide) (by decide) w'
          have r17 : ∀ w', Calls Tryz.prog 71 #[.int .u32 x2, .int .u64 17] w' fun e w2 => e = .returned (.int .u32 (rot x2 17)) ∧ w2 = w' := fun w' => rrotr_calls x2 17 (by decide) (by decide) w'
          have r19 : ∀ w', Calls Tryz.prog 71 #[.int .u32 x2, .int .u64 19] w' fun e w2 => e = .returned (.int .u32 (rot x2 19)) ∧ w2 = w' := fun w' => rrotr_calls x2 19 (by decide) (by decide) w'
          have HS : Hid (∀ W : World, W.heap = wr.heap → (W.cell? ⟨w.heap.size + 1 + 1 + 1, m2, none⟩ = some (.int .u32 x2) ∧ W.cell? ⟨w.heap.size + 1 + 1 + 1, m7, none⟩ = some (.int .u32 x7) ∧ W.cell? ⟨w.heap.size + 1 + 1 + 1, m15, none⟩ = some (.int .u32 x15) ∧ W.cell? ⟨w.heap.size + 1 + 1 + 1, m16, none⟩ = some (.int .u32 x16))) := fun W hW' => by
            have e : ∀ a, W.cell? a = wr.cell? a := fun a => by unfold World.cell?; rw [hW']
            rw [e, e, e, e]
            exact ⟨h2, h7, h15, h16⟩
          have HS2 : Hid (∀ (W : World) (u : Value), W.heap = wr.heap → ((W.setCell ⟨w.heap.size + 1 + 1 + 1, k, none⟩ u).cell? ⟨w.heap.size + 1 + 1 + 1, m2, none⟩ = some (.int .u32 x2) ∧ (W.setCell ⟨w.heap.size + 1 + 1 + 1, k, none⟩ u).cell? ⟨w.heap.size + 1 + 1 + 1, m7, none⟩ = some (.int .u32 x7) ∧ (W.setCell ⟨w.heap.size + 1 + 1 + 1, k, none⟩ u).cell? ⟨w.heap.size + 1 + 1 + 1, m15, none⟩ = some (.int .u32 x15) ∧ (W.setCell ⟨w.heap.size + 1 + 1 + 1, k, none⟩ u).cell? ⟨w.heap.size + 1 + 1 + 1, m16, none⟩ = some (.int .u32 x16))) := fun W u hW' => by
            have hA : Arr W (w.heap.size + 1 + 1 + 1) 99 (row64 (sched bs k)) := hW.keep (by rw [hW'])
            have hA2 := hA.set k u
            have hK := HK.out
            rw [hW.cell] at h2 h7 h15 h16
            rw [hA2.cell, hA2.cell, hA2.cell, hA2.cell, List.getElem?_set_ne (by omega), List.getElem?_set_ne (by omega), List.getElem?_set_ne (by omega), List.getElem?_set_ne (by omega)]
            exact ⟨h2, h7, h15, h16⟩
          go_wp2_with fail
          go_region_held3 (fun W => W.cell? ⟨w.heap.size + 1 + 1 + 1, m2, none⟩ = some (.int .u32 x2) ∧ W.cell? ⟨w.heap.size + 1 + 1 + 1, m7, none⟩ = some (.int .u32 x7) ∧ W.cell? ⟨w.heap.size + 1 + 1 + 1, m15, none⟩ = some (.int .u32 x15) ∧ W.cell? ⟨w.heap.size + 1 + 1 + 1, m16, none⟩ = some (.int .u32 x16)) (first | exact unhide HS _ rfl | exact unhide HS2 _ _ rfl) (fail)
          go_wp2_with (go_at_call 71; (first | with_reducible refine (r7 _).mono ?_ | with_reducible refine (r18 _).mono ?_ | with_reducible refine (r17 _).mono ?_ | with_reducible refine (r19 _).mono ?_); rintro e' w1 ⟨rfl, hw1⟩; obtain rfl := hw1.symm)
          go_region_held3 (fun W => W.cell? ⟨w.heap.size + 1 + 1 + 1, m2, none⟩ = some (.int .u32 x2) ∧ W.cell? ⟨w.heap.size + 1 + 1 + 1, m7, none⟩ = some (.int .u32 x7) ∧ W.cell? ⟨w.heap.size + 1 + 1 + 1, m15, none⟩ = some (.int .u32 x15) ∧ W.cell? ⟨w.heap.size + 1 + 1 + 1, m16, none⟩ = some (.int .u32 x16)) (first | exact unhide HS _ rfl | exact unhide HS2 _ _ rfl) (fail)
          go_wp2
          exact ⟨⟨k + 1, by omega, by omega, by go_num, ((hB.set _ k _ (by omega)).drew).drew, by rw [HNX.out, ← row64_set (by have := HLN.out; omega), HLN.out]; exact ((hW.set k _).drew).drew⟩, by simp [intOf]; omega⟩
        · have hke : k = 64 := by omega
          rw [hke] at hW
          clear hke
          have hR : row64 (sched bs 64) = (sched bs 64).map (Value.int .u32) := by simp [row64, sched_len]
          rw [hR] at hW
          have HC64 : Hid (∀ j, j < 64 → ((sched bs 64).map (Value.int .u32))[j]? = some (.int .u32 ((sched bs 64).getD j 0))) := fun j hj => by
            have hl := sched_len bs 64
            rw [List.getElem?_map, List.getElem?_eq_getElem (by omega), List.getD_eq_getElem?_getD, List.getElem?_eq_getElem (by omega)]
            rfl
          generalize (sched bs 64).map (Value.int .u32) = C at *
          clear hR
          have hi8 : (Tryz.prog.info? 98).map (·.size) = some ([.int .u32 a0, .int .u32 b0, .int .u32 c0, .int .u32 d0, .int .u32 e0, .int .u32 f0, .int .u32 g0, .int .u32 h0] : List Value).length := by kernel_rfl
          have hone : ∀ u ∈ ([.int .u32 a0, .int .u32 b0, .int .u32 c0, .int .u32 d0, .int .u32 e0, .int .u32 f0, .int .u32 g0, .int .u32 h0] : List Value), u.oneCell' = true := by
            intro u hu
            simp only [List.mem_cons, List.not_mem_nil, or_false] at hu
            rcases hu with rfl | rfl | rfl | rfl | rfl | rfl | rfl | rfl <;> rfl
          have HI8 := hide hi8
          have HONE := hide hone
          clear hi8 hone
          have hsz := hB.r.lt
          have hszW := hW.lt
          go_wp2_with (first
            | refine wpList_loadArr rfl (.tmp 4) 98 rfl rfl hB.s Tryz.underlying98 (unhide HI8) ?_
            | (refine wpList_storeArr2 (cs' := [.int .u32 a0, .int .u32 b0, .int .u32 c0, .int .u32 d0, .int .u32 e0, .int .u32 f0, .int .u32 g0, .int .u32 h0]) rfl (.tmp 16) (.tmp 80) 98 rfl rfl rfl (Arr.new wr (List.replicate 8 (.int .u32 0)) _) (unhide HI8) rfl (unhide HONE) ?_; intro w4 hV4 hw4))
          have hB4 := (hB.alloc (.cells (List.replicate 8 (Value.int .u32 0)).toArray 98)).wrote hw4 (by omega)
          have hW4 := (hW.alloc (.cells (List.replicate 8 (Value.int .u32 0)).toArray 98)).wrote hw4 (by omega)
          have hgV : w.heap.size + 1 + 1 + 1 < wr.heap.size := hszW
          generalize wr.heap.size = gV at *
          clear hB hW hw4 hsz hszW
          go_loopw [17] (fun i wr => ∃ (k : Nat) (s : H8), k ≤ 64 ∧ i = .int .i64 (k : Int) ∧ s.ok ∧ Hid (s = rounds8 ⟨a0, b0, c0, d0, e0, f0, g0, h0⟩ (sched bs 64) k) ∧ Blk w wr [.int .u32 a0, .int .u32 b0, .int .u32 c0, .int .u32 d0, .int .u32 e0, .int .u32 f0, .int .u32 g0, .int .u32 h0] KT ∧ Arr wr (w.heap.size + 1 + 1 + 1) 99 C ∧ Arr wr gV 98 s.vals) (fun i _ => 64 - (intOf i).toNat)
          case atStart => exact ⟨0, ⟨a0, b0, c0, d0, e0, f0, g0, h0⟩, by omega, rfl, unhide HS0, rfl, hB4, hW4, hV4⟩
          case round =>
            clear hB4 hW4 hV4
            obtain ⟨k, ⟨a, b, c, d, e, f, g, q⟩, hk, rfl, hs, HR, hB, hW, hV⟩ := hrel
            by_cases hk64' : k < 64
            · have hkI : (k : Int) < 64 := by omega
              have hkI0 : (0 : Int) ≤ (k : Int) := by omega
              have hWk := hW.cell k
              rw [unhide HC64 k hk64'] at hWk
              have hKk := hB.k.cell k
              rw [HKT.out, List.getElem?_map, List.getElem?_eq_getElem (show k < kTab.length from hk64'), Option.map_some, show kTab[k]'(show k < kTab.length from hk64') = kTab.getD k 0 by rw [List.getD_eq_getElem?_getD, List.getElem?_eq_getElem (show k < kTab.length from hk64')]; rfl] at hKk
              have HR2 : Hid ((⟨a, b, c, d, e, f, g, q⟩ : H8).step (kTab.getD k 0) ((sched bs 64).getD k 0) = rounds8 ⟨a0, b0, c0, d0, e0, f0, g0, h0⟩ (sched bs 64) (k + 1)) := by
                show _ = _
                rw [rounds8, ← HR.out]
              clear HR
              generalize (sched bs 64).getD k 0 = wt at *
              generalize kTab.getD k 0 = kt at *
              have HV : Hid (∀ j, wr.cell? ⟨gV, j, none⟩ = (⟨a, b, c, d, e, f, g, q⟩ : H8).vals[j]?) := fun j => hV.cell j
              have HS : Hid (∀ W : World, W.heap = wr.heap → (W.cell? ⟨gV, 0, none⟩ = some (.int .u32 a) ∧ W.cell? ⟨gV, 1, none⟩ = some (.int .u32 b) ∧ W.cell? ⟨gV, 2, none⟩ = some (.int .u32 c) ∧ W.cell? ⟨gV, 3, none⟩ = some (.int .u32 d) ∧ W.cell? ⟨gV, 4, none⟩ = some (.int .u32 e) ∧ W.cell? ⟨gV, 5, none⟩ = some (.int .u32 f) ∧ W.cell? ⟨gV, 6, none⟩ = some (.int .u32 g) ∧ W.cell? ⟨gV, 7, none⟩ = some (.int .u32 q) ∧ W.cell? ⟨w.heap.size + 1, k, none⟩ = some (.int .u32 kt) ∧ W.cell? ⟨w.heap.size + 1 + 1 + 1, k, none⟩ = some (.int .u32 wt))) := fun W hW' => by
                have e : ∀ a, W.cell? a = wr.cell? a := fun a => by unfold World.cell?; rw [hW']
                simp only [e]
                exact ⟨unhide HV 0, unhide HV 1, unhide HV 2, unhide HV 3, unhide HV 4, unhide HV 5, unhide HV 6, unhide HV 7, hKk, hWk⟩
              clear hWk hKk HV
              have r6 : ∀ w', Calls Tryz.prog 71 #[.int .u32 e, .int .u64 6] w' fun z w2 => z = .returned (.int .u32 (rot e 6)) ∧ w2 = w' := fun w' => rrotr_calls e 6 (by decide) (by decide) w'
              have r11 : ∀ w', Calls Tryz.prog 71 #[.int .u32 e, .int .u64 11] w' fun z w2 => z = .returned (.int .u32 (rot e 11)) ∧ w2 = w' := fun w' => rrotr_calls e 11 (by decide) (by decide) w'
              have r25 : ∀ w', Calls Tryz.prog 71 #[.int .u32 e, .int .u64 25] w' fun z w2 => z = .returned (.int .u32 (rot e 25)) ∧ w2 = w' := fun w' => rrotr_calls e 25 (by decide) (by decide) w'
              have r2 : ∀ w', Calls Tryz.prog 71 #[.int .u32 a, .int .u64 2] w' fun z w2 => z = .returned (.int .u32 (rot a 2)) ∧ w2 = w' := fun w' => rrotr_calls a 2 (by decide) (by decide) w'
              have r13 : ∀ w', Calls Tryz.prog 71 #[.int .u32 a, .int .u64 13] w' fun z w2 => z = .returned (.int .u32 (rot a 13)) ∧ w2 = w' := fun w' => rrotr_calls a 13 (by decide) (by decide) w'
              have r22 : ∀ w', Calls Tryz.prog 71 #[.int .u32 a, .int .u64 22] w' fun z w2 => z = .returned (.int .u32 (rot a 22)) ∧ w2 = w' := fun w' => rrotr_calls a 22 (by decide) (by decide) w'
              go_wp2_with fail
              go_region_held3 (fun W => W.cell? ⟨gV, 0, none⟩ = some (.int .u32 a) ∧ W.cell? ⟨gV, 1, none⟩ = some (.int .u32 b) ∧ W.cell? ⟨gV, 2, none⟩ = some (.int .u32 c) ∧ W.cell? ⟨gV, 3, none⟩ = some (.int .u32 d) ∧ W.cell? ⟨gV, 4, none⟩ = some (.int .u32 e) ∧ W.cell? ⟨gV, 5, none⟩ = some (.int .u32 f) ∧ W.cell? ⟨gV, 6, none⟩ = some (.int .u32 g) ∧ W.cell? ⟨gV, 7, none⟩ = some (.int .u32 q) ∧ W.cell? ⟨w.heap.size + 1, k, none⟩ = some (.int .u32 kt) ∧ W.cell? ⟨w.heap.size + 1 + 1 + 1, k, none⟩ = some (.int .u32 wt)) (exact unhide HS _ rfl) (fail)
              obtain ⟨v0, v1, v2, v3, v4, v5, v6, v7, v8, v9⟩ := unhide HS wr.drew rfl
              go_wp2_with (go_at_call 71; (first | with_reducible refine (r6 _).mono ?_ | with_reducible refine (r11 _).mono ?_ | with_reducible refine (r25 _).mono ?_ | with_reducible refine (r2 _).mono ?_ | with_reducible refine (r13 _).mono ?_ | with_reducible refine (r22 _).mono ?_); rintro e' w1 ⟨rfl, hw1⟩; obtain rfl := hw1.symm)
              clear v0 v1 v2 v3 v4 v5 v6 v7 v8 v9
              go_region_held3 (fun W => W.cell? ⟨gV, 0, none⟩ = some (.int .u32 a) ∧ W.cell? ⟨gV, 1, none⟩ = some (.int .u32 b) ∧ W.cell? ⟨gV, 2, none⟩ = some (.int .u32 c) ∧ W.cell? ⟨gV, 3, none⟩ = some (.int .u32 d) ∧ W.cell? ⟨gV, 4, none⟩ = some (.int .u32 e) ∧ W.cell? ⟨gV, 5, none⟩ = some (.int .u32 f) ∧ W.cell? ⟨gV, 6, none⟩ = some (.int .u32 g) ∧ W.cell? ⟨gV, 7, none⟩ = some (.int .u32 q) ∧ W.cell? ⟨w.heap.size + 1, k, none⟩ = some (.int .u32 kt) ∧ W.cell? ⟨w.heap.size + 1 + 1 + 1, k, none⟩ = some (.int .u32 wt)) (exact unhide HS _ rfl) (fail)
              have hmx : (if IntKind.u32.signed = true then (-1 : Int) else IntKind.u32.max) = IntKind.u32.max := rfl
              try rw [hmx]
              have hX : IntKind.u32.wrap (IntKind.u32.wrap (IntKind.u32.wrap (IntKind.u32.wrap (q + bits .xor .u32 (bits .xor .u32 (rot e 6) (rot e 11)) (rot e 25)) + bits .xor .u32 (bits .and .u32 e f) (bits .and .u32 (bits .xor .u32 IntKind.u32.max e) g)) + kt) + wt) = (⟨a, b, c, d, e, f, g, q⟩ : H8).x kt wt := by
                simp only [IntKind.wrap_u32', H8.x, Sig1]
              rw [hX]
              have hs2 := H8.step_ok hs kt wt
              have HS2 : Hid ((⟨a, b, c, d, e, f, g, q⟩ : H8).step kt wt = ⟨((⟨a, b, c, d, e, f, g, q⟩ : H8).x kt wt + (bits .xor .u32 (bits .xor .u32 (rot a 2) (rot a 13)) (rot a 22) + bits .xor .u32 (bits .xor .u32 (bits .and .u32 a b) (bits .and .u32 a c)) (bits .and .u32 b c)) % 4294967296) % 4294967296, a, b, c, (d + (⟨a, b, c, d, e, f, g, q⟩ : H8).x kt wt) % 4294967296, e, f, g⟩) := rfl
              clear hX hmx
              generalize (⟨a, b, c, d, e, f, g, q⟩ : H8).x kt wt = X at *
              have HNV : Hid (∀ l : List Value, l = [.int .u32 ((X + (bits .xor .u32 (bits .xor .u32 (rot a 2) (rot a 13)) (rot a 22) + bits .xor .u32 (bits .xor .u32 (bits .and .u32 a b) (bits .and .u32 a c)) (bits .and .u32 b c))) % 4294967296), .int .u32 a, .int .u32 b, .int .u32 c, .int .u32 ((d + X) % 4294967296), .int .u32 e, .int .u32 f, .int .u32 g] → l = ((⟨a, b, c, d, e, f, g, q⟩ : H8).step kt wt).vals) := fun l hl => by
                rw [hl, HS2.out]
                simp only [H8.vals]
                rw [Int.add_emod_emod]
              go_wp2_with (refine wpList_storeArr2 rfl (.tmp 16) (.tmp 164) 98 rfl rfl rfl (hV.drew).drew (unhide HI8) rfl (by intro u hu; simp only [List.mem_cons, List.not_mem_nil, or_false] at hu; rcases hu with rfl | rfl | rfl | rfl | rfl | rfl | rfl | rfl <;> rfl) ?_; intro w6 hV6 hw6)
              rw [unhide HNV _ rfl] at hV6
              exact ⟨⟨k + 1, _, by omega, by go_num, hs2, HR2, (hB.drew).drew.wrote hw6 (by omega), ((hW.drew).drew).wrote hw6 (by omega), hV6⟩, by simp [intOf]; omega⟩
            · have hke : k = 64 := by omega
              obtain ⟨S0, hS0⟩ : ∃ S0 : H8, S0 = ⟨a0, b0, c0, d0, e0, f0, g0, h0⟩ := ⟨_, rfl⟩
              obtain ⟨T0, hT0⟩ : ∃ T0 : H8, T0 = ⟨a, b, c, d, e, f, g, q⟩ := ⟨_, rfl⟩
              have HR2 : Hid (blockF ⟨a0, b0, c0, d0, e0, f0, g0, h0⟩ bs = S0.plus T0) := by
                show _ = _
                rw [blockF, hS0, hT0, HR.out, hke]
              have hBs : Blk w wr S0.vals KT := by rw [hS0]; exact hB
              rw [← hT0] at hV
              clear HR hke hS0 hT0 hB hW
              go_wp2_with fail
              go_loopw [24] (fun i wr => ∃ j : Nat, j ≤ 8 ∧ i = .int .i64 (j : Int) ∧ Blk w wr (mixV S0.vals (S0.plus T0).vals j) KT ∧ Arr wr gV 98 T0.vals) (fun i _ => 8 - (intOf i).toNat)
              case atStart => exact ⟨0, by omega, rfl, hBs, hV⟩
              case round =>
                clear hBs hV
                obtain ⟨j, hj, rfl, hB, hV⟩ := hrel
                by_cases hj8 : j < 8
                · have hx := hB.s.cell j
                  rw [mixV_at (show j ≤ 8 by omega), H8.vals_at S0 j hj8] at hx
                  have hy := hV.cell j
                  rw [H8.vals_at T0 j hj8] at hy
                  have hfr := hB.s.frozen j
                  have HP : Hid ((mixV S0.vals (S0.plus T0).vals j).set j (.int .u32 ((S0.at_ j + T0.at_ j) % 4294967296)) = mixV S0.vals (S0.plus T0).vals (j + 1)) :=
                    mixV_set (show j < 8 from hj8) (show j < 8 from hj8) (by rw [H8.vals_at _ j hj8, H8.plus_at _ _ j hj8])
                  generalize S0.at_ j = x0 at *
                  generalize T0.at_ j = y0 at *
                  have hjI : (j : Int) < 8 := by omega
                  have hjI0 : (0 : Int) ≤ (j : Int) := by omega
                  go_wp2_with fail
                  go_region
                  go_wp2
                  exact ⟨⟨j + 1, by omega, by go_num, by rw [← HP.out]; exact (hB.setS j _).drew, (hV.other _ _ (show gV ≠ w.heap.size by omega)).drew⟩, by simp [intOf]; omega⟩
                · have hje : j = 8 := by omega
                  have hmx : mixV S0.vals (S0.plus T0).vals 8 = (S0.plus T0).vals := by
                    unfold mixV
                    rw [List.take_of_length_le (show (S0.plus T0).vals.length ≤ 8 from Nat.le_refl _), List.drop_of_length_le (show S0.vals.length ≤ 8 from Nat.le_refl _), List.append_nil]
                  rw [hje, hmx] at hB
                  clear hje hmx
                  have hi8 : (Tryz.prog.info? 98).map (·.size) = some (S0.plus T0).vals.length := by kernel_rfl
                  have hone8 : ∀ u ∈ (S0.plus T0).vals, u.oneCell' = true := by
                    intro u hu
                    simp only [H8.vals, List.mem_cons, List.not_mem_nil, or_false] at hu
                    rcases hu with rfl | rfl | rfl | rfl | rfl | rfl | rfl | rfl <;> rfl
                  obtain ⟨PV, hPV⟩ : ∃ PV, PV = (S0.plus T0).vals := ⟨_, rfl⟩
                  have hl8 : (List.replicate 8 (Value.int .u32 0)).length = PV.length := by rw [hPV]; rfl
                  rw [← hPV] at hB hi8 hone8
                  have HPV := hide hPV
                  clear hPV
                  go_wp2_with (first
                    | refine wpList_loadArr rfl (.tmp 4) 98 rfl rfl hB.s Tryz.underlying98 hi8 ?_
                    | (refine wpList_storeArr2 (cs' := PV) rfl (.tmp 8) (.tmp 178) 98 rfl rfl rfl hB.r hi8 hl8 hone8 ?_; intro w8 hR8 hw8))
                  exact bodyPost_ret (v := .agg PV.toArray) (results_arr rfl rfl hR8 Tryz.underlying98 hi8) rfl ⟨by rw [HR2.out, HPV.out], hw8.below _ _ hB.b (by omega)⟩
end Go.Proofs.YtfhfobikbfbajaaGreatDoor

namespace Go.Proofs.YtfhfobikbfbajaaGreatDoor
open Go.RowKit

def init8 : H8 := ⟨1779033703, 3144134277, 1013904242, 2773480762, 1359893119, 2600822924, 528734635, 1541459225⟩
theorem init8_ok : init8.ok := by constructor <;> decide
/-- The words behind the first n blocks. -/
def absorbN (s : H8) (xs : List Int) : Nat → H8
  | 0 => s
  | n + 1 => blockF (absorbN s xs n) ((xs.drop (64 * n)).take 64)
theorem absorbN_ok {s : H8} (h : s.ok) (xs : List Int) : ∀ n, (absorbN s xs n).ok
  | 0 => h
  | _ + 1 => blockF_ok _ _
/-- Zeros behind the mark. -/
def zerosOf (L : Nat) : Nat := (119 - L % 64) % 64
theorem zerosOf_fit (L : Nat) : (L + 1 + zerosOf L) % 64 = 56 := by unfold zerosOf; omega
theorem zerosOf_less {L k : Nat} (h : k < zerosOf L) : (L + 1 + k) % 64 ≠ 56 := by unfold zerosOf at h; omega
/-- How many bits, in eight bytes: the first k of them. -/
def cntB (L k : Nat) : List Int := (List.range k).map fun i => (8 * (L : Int)) / 2 ^ (8 * (7 - i)) % 256
theorem cntB_succ (L k : Nat) : cntB L (k + 1) = cntB L k ++ [(8 * (L : Int)) / 2 ^ (8 * (7 - k)) % 256] := by simp [cntB, List.range_succ]
theorem cntB_len (L k : Nat) : (cntB L k).length = k := by simp [cntB]
def laidB (xs : List Int) : List Int := xs ++ [128] ++ List.replicate (zerosOf xs.length) 0 ++ cntB xs.length 8
theorem laidB_len (xs : List Int) : (laidB xs).length = xs.length + 1 + zerosOf xs.length + 8 := by simp [laidB, cntB_len]; omega
theorem laidB_bytes {xs : List Int} (h : ∀ x ∈ xs, 0 ≤ x ∧ x ≤ 255) : ∀ x ∈ laidB xs, 0 ≤ x ∧ x ≤ 255 := by
  intro x hx
  simp only [laidB, List.mem_append, List.mem_cons, List.not_mem_nil, or_false, List.mem_replicate, cntB, List.mem_map] at hx
  rcases hx with ((hx | rfl) | ⟨_, rfl⟩) | ⟨i, _, rfl⟩
  · exact h x hx
  · omega
  · omega
  · omega
/-- The words as bytes, the first k of them. -/
def keyB (s : H8) (k : Nat) : List Int := (List.range k).map fun i => s.at_ (i / 4) / 2 ^ (24 - 8 * (i % 4)) % 256
theorem keyB_succ (s : H8) (k : Nat) : keyB s (k + 1) = keyB s k ++ [s.at_ (k / 4) / 2 ^ (24 - 8 * (k % 4)) % 256] := by simp [keyB, List.range_succ]
theorem keyB_len (s : H8) (k : Nat) : (keyB s k).length = k := by simp [keyB]
/-- The hash of a byte string. -/
def shaOf (xs : List Int) : List Int := keyB (absorbN init8 (laidB xs) ((laidB xs).length / 64)) 32
def keyV (xs : List Int) : Value := .agg ((shaOf xs).map (Value.int .u8)).toArray
end Go.Proofs.YtfhfobikbfbajaaGreatDoor
