/- The eight words behind one more block. -/
import Derived.Test.YtfhfobikbfbajaaGreatDoorTBH
namespace Go.Proofs.YtfhfobikbfbajaaGreatDoor
open Go.RowKit

/-- The eight words. -/
structure H8 where
  a : Int
  b : Int
  c : Int
  d : Int
  e : Int
  f : Int
  g : Int
  h : Int
def H8.vals (s : H8) : List Value := [.int .u32 s.a, .int .u32 s.b, .int .u32 s.c, .int .u32 s.d, .int .u32 s.e, .int .u32 s.f, .int .u32 s.g, .int .u32 s.h]

structure H8.ok (s : H8) : Prop where
  a : 0 ≤ s.a ∧ s.a < 4294967296
  b : 0 ≤ s.b ∧ s.b < 4294967296
  c : 0 ≤ s.c ∧ s.c < 4294967296
  d : 0 ≤ s.d ∧ s.d < 4294967296
  e : 0 ≤ s.e ∧ s.e < 4294967296
  f : 0 ≤ s.f ∧ s.f < 4294967296
  g : 0 ≤ s.g ∧ s.g < 4294967296
  h : 0 ≤ s.h ∧ s.h < 4294967296
def H8.x (s : H8) (k w : Int) : Int := ((((s.h + Sig1 s.e) % 4294967296 + bits .xor .u32 (bits .and .u32 s.e s.f) (bits .and .u32 (bits .xor .u32 IntKind.u32.max s.e) s.g)) % 4294967296 + k) % 4294967296 + w) % 4294967296
def H8.y (s : H8) : Int := (Sig0 s.a + bits .xor .u32 (bits .xor .u32 (bits .and .u32 s.a s.b) (bits .and .u32 s.a s.c)) (bits .and .u32 s.b s.c)) % 4294967296
def H8.step (s : H8) (k w : Int) : H8 := ⟨(s.x k w + s.y) % 4294967296, s.a, s.b, s.c, (s.d + s.x k w) % 4294967296, s.e, s.f, s.g⟩
theorem H8.step_ok {s : H8} (h : s.ok) (k w : Int) : (s.step k w).ok :=
  ⟨by simp only [H8.step]; omega, h.a, h.b, h.c, by simp only [H8.step]; omega, h.e, h.f, h.g⟩
def kTab : List Int := [1116352408, 1899447441, 3049323471, 3921009573, 961987163, 1508970993, 2453635748, 2870763221, 3624381080, 310598401, 607225278, 1426881987, 1925078388, 2162078206, 2614888103, 3248222580, 3835390401, 4022224774, 264347078, 604807628, 770255983, 1249150122, 1555081692, 1996064986, 2554220882, 2821834349, 2952996808, 3210313671, 3336571891, 3584528711, 113926993, 338241895, 666307205, 773529912, 1294757372, 1396182291, 1695183700, 1986661051, 2177026350, 2456956037, 2730485921, 2820302411, 3259730800, 3345764771, 3516065817, 3600352804, 4094571909, 275423344, 430227734, 506948616, 659060556, 883997877, 958139571, 1322822218, 1537002063, 1747873779, 1955562222, 2024104815, 2227730452, 2361852424, 2428436474, 2756734187, 3204031479, 3329325298]
/-- The sixty-four numbers lie in memory as they were laid. -/
def TabK (w : World) : Prop := ∀ i, i < 64 → w.cell? ⟨2, i, none⟩ = some (.int .u32 (kTab.getD i 0))
theorem TabK.below {w w' : World} (h : TabK w) (hb : Below w.heap.size w w') : TabK w' := fun i hi =>
  (hb.cell (p := ⟨2, i, none⟩) (World.block_lt_of_cell? w _ (h i hi))).trans (h i hi)
theorem kTab_bd : ∀ i : Nat, i < 64 → 0 ≤ kTab.getD i 0 ∧ kTab.getD i 0 < 4294967296 := by decide

/-- n rounds. -/
def rounds8 (s : H8) (ws : List Int) : Nat → H8
  | 0 => s
  | n + 1 => (rounds8 s ws n).step (kTab.getD n 0) (ws.getD n 0)
def H8.plus (s t : H8) : H8 := ⟨(s.a + t.a) % 4294967296, (s.b + t.b) % 4294967296, (s.c + t.c) % 4294967296, (s.d + t.d) % 4294967296, (s.e + t.e) % 4294967296, (s.f + t.f) % 4294967296, (s.g + t.g) % 4294967296, (s.h + t.h) % 4294967296⟩
theorem H8.plus_ok (s t : H8) : (s.plus t).ok := by constructor <;> simp only [H8.plus] <;> omega
/-- The words behind a block. -/
def blockF (s : H8) (bs : List Int) : H8 := s.plus (rounds8 s (sched bs 64) 64)
theorem blockF_ok (s : H8) (bs : List Int) : (blockF s bs).ok := H8.plus_ok _ _

set_option maxRecDepth 100000 in
set_option maxHeartbeats 1000000 in
theorem after_in (s : H8) (bb off cap : Nat) (bs : List Int) (w : World) (hc : 64 ≤ cap) (hm : cap ≤ 9223372036854775807) (hby : ∀ j : Nat, 0 ≤ bs.getD j 0 ∧ bs.getD j 0 ≤ 255)
    (hcell : ∀ j, j < 64 → w.cell? ⟨bb, off + j, none⟩ = some (.int .u8 (bs.getD j 0))) (ht : TabK w) (hs : s.ok) :
    Calls Tryz.prog 61 #[.agg s.vals.toArray, .slice (some ⟨bb, off, none⟩) 64 cap] w fun e w' => e = .returned (.agg (blockF s bs).vals.toArray) ∧ Below w.heap.size w w' := by
  obtain ⟨a0, b0, c0, d0, e0, f0, g0, h0⟩ := s
  show Calls Tryz.prog _ #[.agg #[.int .u32 a0, .int .u32 b0, .int .u32 c0, .int .u32 d0, .int .u32 e0, .int .u32 f0, .int .u32 g0, .int .u32 h0], _] w _
  have HC := hide hcell
  have HBY := hide hby
  have HT := hide ht
  clear hcell hby ht
  go_enter Tryz.func61, Tryz.ntmps61
  go_wp2_with fail
  have hA0 := Arr.new w [.int .u32 a0, .int .u32 b0, .int .u32 c0, .int .u32 d0, .int .u32 e0, .int .u32 f0, .int .u32 g0, .int .u32 h0] 122
  have hb0 : Below w.heap.size w (w.alloc (.cells #[.int .u32 a0, .int .u32 b0, .int .u32 c0, .int .u32 d0, .int .u32 e0, .int .u32 f0, .int .u32 g0, .int .u32 h0] 122)) := (Below.refl _ _).alloc (Nat.le_refl _) _
  have hA1 := Arr.new (w.alloc (.cells #[.int .u32 a0, .int .u32 b0, .int .u32 c0, .int .u32 d0, .int .u32 e0, .int .u32 f0, .int .u32 g0, .int .u32 h0] 122)) (List.replicate 8 (.int .u32 0)) 122
  have hA0' := hA0.alloc (.cells (List.replicate 8 (.int .u32 0)).toArray 122)
  have hb1 := hb0.alloc hb0.size (.cells (List.replicate 8 (.int .u32 0)).toArray 122)
  have hsz : (w.alloc (.cells #[.int .u32 a0, .int .u32 b0, .int .u32 c0, .int .u32 d0, .int .u32 e0, .int .u32 f0, .int .u32 g0, .int .u32 h0] 122)).heap.size = w.heap.size + 1 := by simp
  rw [hsz] at hA1
  have HA0 : Hid (Arr _ w.heap.size 122 [.int .u32 a0, .int .u32 b0, .int .u32 c0, .int .u32 d0, .int .u32 e0, .int .u32 f0, .int .u32 g0, .int .u32 h0]) := hA0'
  have HA1 : Hid (Arr _ (w.heap.size + 1) 122 (List.replicate 8 (.int .u32 0))) := hA1
  have HB1 := hide hb1
  clear hA0 hA0' hA1 hb0 hb1 hsz
  refine (spread_in bb off cap bs _ hc hm (unhide HBY) (fun j hj => by
    have h := unhide HC j hj
    exact ((unhide HB1).cell (World.block_lt_of_cell? _ _ h)).trans h)).mono ?_
  rintro e w3 ⟨rfl, hb3⟩
  have hA0 := (unhide HA0).below hb3
  have hA1 := (unhide HA1).below hb3
  have hB3 := below_then (unhide HB1) hb3
  clear HA0 HA1 HB1 hb3
  have hi79 : (Tryz.prog.info? 99).map (·.size) = some ((sched bs 64).map (Value.int .u32)).length := by rw [List.length_map, sched_len]; kernel_rfl
  have hlen0 : (row64 []).length = ((sched bs 64).map (Value.int .u32)).length := by rw [List.length_map, sched_len]; rfl
  have hone : ∀ u ∈ (sched bs 64).map (Value.int .u32), u.oneCell' = true := fun u hu => by
    obtain ⟨x, _, rfl⟩ := List.mem_map.1 hu
    rfl
  have HC64 : Hid (∀ j, j < 64 → ((sched bs 64).map (Value.int .u32))[j]? = some (.int .u32 ((sched bs 64).getD j 0))) := fun j hj => by
    have hl := sched_len bs 64
    rw [List.getElem?_map, List.getElem?_eq_getElem (by omega), List.getD_eq_getElem?_getD, List.getElem?_eq_getElem (by omega)]
    rfl
  generalize (sched bs 64).map (Value.int .u32) = C at *
  have hg3 := hA0.lt
  have hg3' := hA1.lt
  go_wp2_with (first
    | (refine wpList_storeArr2 rfl (.tmp 5) (.tmp 18) 99 rfl rfl rfl (Arr.new w3 (row64 []) _) hi79 hlen0 hone ?_; intro w4 hC4 hw4))
  have hA04 := (hA0.alloc (.cells (row64 []).toArray 99)).wrote hw4 (by omega)
  have hA14 := (hA1.alloc (.cells (row64 []).toArray 99)).wrote hw4 (by omega)
  have hB4 := hw4.below _ _ (hB3.alloc hB3.size _) hB3.size
  generalize w3.heap.size = gW at *
  clear hA0 hA1 hB3 hw4 hi79 hlen0 hone
  have k0 := hA04.cell 0
  have k1 := hA04.cell 1
  have k2 := hA04.cell 2
  have k3 := hA04.cell 3
  have k4 := hA04.cell 4
  have k5 := hA04.cell 5
  have k6 := hA04.cell 6
  have k7 := hA04.cell 7
  simp only [List.getElem?_cons_succ, List.getElem?_cons_zero] at k0 k1 k2 k3 k4 k5 k6 k7
  have HS : Hid (∀ W : World, W.heap = w4.heap → (W.cell? ⟨w.heap.size, 0, none⟩ = some (.int .u32 a0) ∧ W.cell? ⟨w.heap.size, 1, none⟩ = some (.int .u32 b0) ∧ W.cell? ⟨w.heap.size, 2, none⟩ = some (.int .u32 c0) ∧ W.cell? ⟨w.heap.size, 3, none⟩ = some (.int .u32 d0) ∧
      W.cell? ⟨w.heap.size, 4, none⟩ = some (.int .u32 e0) ∧ W.cell? ⟨w.heap.size, 5, none⟩ = some (.int .u32 f0) ∧ W.cell? ⟨w.heap.size, 6, none⟩ = some (.int .u32 g0) ∧ W.cell? ⟨w.heap.size, 7, none⟩ = some (.int .u32 h0))) := fun W hW => by
    have e : ∀ a, W.cell? a = w4.cell? a := fun a => by unfold World.cell?; rw [hW]
    rw [e, e, e, e, e, e, e, e]
    exact ⟨k0, k1, k2, k3, k4, k5, k6, k7⟩
  clear k0 k1 k2 k3 k4 k5 k6 k7
  go_region_held3 (fun W => W.cell? ⟨w.heap.size, 0, none⟩ = some (.int .u32 a0) ∧ W.cell? ⟨w.heap.size, 1, none⟩ = some (.int .u32 b0) ∧ W.cell? ⟨w.heap.size, 2, none⟩ = some (.int .u32 c0) ∧ W.cell? ⟨w.heap.size, 3, none⟩ = some (.int .u32 d0) ∧
      W.cell? ⟨w.heap.size, 4, none⟩ = some (.int .u32 e0) ∧ W.cell? ⟨w.heap.size, 5, none⟩ = some (.int .u32 f0) ∧ W.cell? ⟨w.heap.size, 6, none⟩ = some (.int .u32 g0) ∧ W.cell? ⟨w.heap.size, 7, none⟩ = some (.int .u32 h0))
    (exact unhide HS _ rfl) (fail)
  have hA05 := hA04.drew
  have hA15 := hA14.drew
  have hC5 := hC4.drew
  have hB5 := hB4.drew
  generalize w4.drew = w5 at *
  clear hA04 hA14 hC4 hB4 HS
  go_wp2_with fail
  have hs' := hs
  clear hs
  go_loopw [6, 7, 8, 9, 10, 11, 12, 13, 35] (fun va vb vc vd ve vf vg vh i wr => ∃ (k : Nat) (s : H8), k ≤ 64 ∧ va = .int .u32 s.a ∧ vb = .int .u32 s.b ∧ vc = .int .u32 s.c ∧ vd = .int .u32 s.d ∧ ve = .int .u32 s.e ∧ vf = .int .u32 s.f ∧ vg = .int .u32 s.g ∧ vh = .int .u32 s.h ∧ i = .int .i64 (k : Int) ∧ s.ok ∧ Hid (s = rounds8 ⟨a0, b0, c0, d0, e0, f0, g0, h0⟩ (sched bs 64) k) ∧
      Arr wr w.heap.size 122 [.int .u32 a0, .int .u32 b0, .int .u32 c0, .int .u32 d0, .int .u32 e0, .int .u32 f0, .int .u32 g0, .int .u32 h0] ∧ Arr wr (w.heap.size + 1) 122 (List.replicate 8 (.int .u32 0)) ∧ Arr wr gW 99 C ∧ Below w.heap.size w wr)
    (fun _ _ _ _ _ _ _ _ i _ => 64 - (intOf i).toNat)
  case atStart => exact ⟨0, ⟨a0, b0, c0, d0, e0, f0, g0, h0⟩, by omega, rfl, rfl, rfl, rfl, rfl, rfl, rfl, rfl, rfl, hs', rfl, hA05, hA15, hC5, hB5⟩
  case round =>
    clear hA05 hA15 hC5 hB5 hs'
    obtain ⟨k, ⟨a, b, c, d, e, f, g, q⟩, hk, rfl, rfl, rfl, rfl, rfl, rfl, rfl, rfl, rfl, hs, HR, hA0, hA1, hC, hnx⟩ := hrel
    by_cases hk64 : k < 64
    · have hkI : (k : Int) < 64 := by omega
      have hkI0 : (0 : Int) ≤ (k : Int) := by omega
      have hW := hC.cell k
      rw [unhide HC64 k hk64] at hW
      have hK := (unhide HT).below hnx k hk64
      have hwb := sched_bd bs 64 k
      have hkb := kTab_bd k hk64
      have HR2 : Hid ((⟨a, b, c, d, e, f, g, q⟩ : H8).step (kTab.getD k 0) ((sched bs 64).getD k 0) = rounds8 ⟨a0, b0, c0, d0, e0, f0, g0, h0⟩ (sched bs 64) (k + 1)) := by
        show _ = _
        rw [rounds8, ← HR.out]
      clear HR
      generalize (sched bs 64).getD k 0 = wt at *
      generalize kTab.getD k 0 = kt at *
      have hea := hs.e
      have haa := hs.a
      simp only at hea haa
      have HS : Hid (∀ W : World, W.heap = wr.heap → (W.cell? ⟨gW, k, none⟩ = some (.int .u32 wt) ∧ W.cell? ⟨2, k, none⟩ = some (.int .u32 kt))) := fun W hW' => by
        have e : ∀ a, W.cell? a = wr.cell? a := fun a => by unfold World.cell?; rw [hW']
        rw [e, e]
        exact ⟨hW, hK⟩
      clear hW hK
      go_wp2_with fail
      go_region_held3 (fun W => W.cell? ⟨gW, k, none⟩ = some (.int .u32 wt) ∧ W.cell? ⟨2, k, none⟩ = some (.int .u32 kt)) (exact unhide HS _ rfl)
        (first
          | (go_at_call 103; refine (turnedE_calls e hea.1 hea.2 _).mono ?_; rintro e' w1 ⟨rfl, hw1⟩; obtain rfl := hw1.symm))
      have hX : IntKind.u32.wrap (IntKind.u32.wrap (IntKind.u32.wrap (IntKind.u32.wrap (q + Sig1 e) + bits .xor .u32 (bits .and .u32 e f) (bits .and .u32 (bits .xor .u32 IntKind.u32.max e) g)) + kt) + wt) = (⟨a, b, c, d, e, f, g, q⟩ : H8).x kt wt := by
        simp only [IntKind.wrap_u32', H8.x]
      rw [hX]
      have hs2 := H8.step_ok hs kt wt
      have HS2 : Hid ((⟨a, b, c, d, e, f, g, q⟩ : H8).step kt wt = ⟨((⟨a, b, c, d, e, f, g, q⟩ : H8).x kt wt + (Sig0 a + bits .xor .u32 (bits .xor .u32 (bits .and .u32 a b) (bits .and .u32 a c)) (bits .and .u32 b c)) % 4294967296) % 4294967296, a, b, c, (d + (⟨a, b, c, d, e, f, g, q⟩ : H8).x kt wt) % 4294967296, e, f, g⟩) := rfl
      clear hX
      generalize (⟨a, b, c, d, e, f, g, q⟩ : H8).x kt wt = X at *
      go_wp2_with (go_at_call 104; refine (turnedA_calls a haa.1 haa.2 _).mono ?_; rintro e' w1 ⟨rfl, hw1⟩; obtain rfl := hw1.symm)
      rw [HS2.out] at hs2 HR2
      exact ⟨⟨k + 1, _, by omega, rfl, rfl, rfl, rfl, rfl, rfl, rfl, rfl, by go_num, hs2, HR2, hA0.drew, hA1.drew, hC.drew, hnx.drew⟩, by simp [intOf]; omega⟩
    · have hke : k = 64 := by omega
      have HR2 : Hid (blockF ⟨a0, b0, c0, d0, e0, f0, g0, h0⟩ bs = (⟨a0, b0, c0, d0, e0, f0, g0, h0⟩ : H8).plus ⟨a, b, c, d, e, f, g, q⟩) := by
        show _ = _
        rw [blockF, HR.out, hke]
      clear HR hke
      have k0 := hA0.cell 0
      have k1 := hA0.cell 1
      have k2 := hA0.cell 2
      have k3 := hA0.cell 3
      have k4 := hA0.cell 4
      have k5 := hA0.cell 5
      have k6 := hA0.cell 6
      have k7 := hA0.cell 7
      simp only [List.getElem?_cons_succ, List.getElem?_cons_zero] at k0 k1 k2 k3 k4 k5 k6 k7
      have hi82 : (Tryz.prog.info? 122).map (·.size) = some ((⟨a0, b0, c0, d0, e0, f0, g0, h0⟩ : H8).plus ⟨a, b, c, d, e, f, g, q⟩).vals.length := by kernel_rfl
      have hone : ∀ u ∈ ((⟨a0, b0, c0, d0, e0, f0, g0, h0⟩ : H8).plus ⟨a, b, c, d, e, f, g, q⟩).vals, u.oneCell' = true := by
        intro u hu
        simp only [H8.vals, List.mem_cons, List.not_mem_nil, or_false] at hu
        rcases hu with rfl | rfl | rfl | rfl | rfl | rfl | rfl | rfl <;> rfl
      have HI82 := hide hi82
      have HONE := hide hone
      clear hi82 hone
      go_wp2_with (refine wpList_storeArr2 (cs' := ((⟨a0, b0, c0, d0, e0, f0, g0, h0⟩ : H8).plus ⟨a, b, c, d, e, f, g, q⟩).vals) rfl (.tmp 4) (.tmp 118) 122 rfl rfl rfl hA1 (unhide HI82) rfl (unhide HONE) ?_; intro w6 hC6 hw6)
      refine bodyPost_ret (v := .agg ((⟨a0, b0, c0, d0, e0, f0, g0, h0⟩ : H8).plus ⟨a, b, c, d, e, f, g, q⟩).vals.toArray) (results_arr rfl rfl hC6 Tryz.underlying122 (unhide HI82)) rfl ⟨by rw [HR2.out], hw6.below _ _ hnx (by omega)⟩
end Go.Proofs.YtfhfobikbfbajaaGreatDoor
