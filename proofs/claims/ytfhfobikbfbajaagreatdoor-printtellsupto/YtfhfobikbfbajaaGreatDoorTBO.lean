/- What Sum answers: the hash of the parts, laid behind one another. What wire.Uint answers: the number's groups of seven bits, in new memory. What same, num, outside answer. What wire.Bytes answers: the length, then the bytes, in new memory. The program's parts: what is hashed. The program's Fingerprint. The law's own keys: cut, and laid with marks behind them. -/
import Derived.Test.YtfhfobikbfbajaaGreatDoorTBN
import Derived.Test.YtfhfobikbfbajaaGreatDoorTAB
import Derived.Test.YtfhfobikbfbajaaGreatDoorProg
import Derived.Test.YtfhfobikbfbajaaGreatDoorTAA
import Derived.WalkKit
import Derived.WalkSpells
import Derived.Laws.AppendOwnNone
import Derived.Test.YtfhfobikbfbajaaGreatDoorTBK
namespace Go.Proofs.YtfhfobikbfbajaaGreatDoor
open Go.RowKit

theorem IsB.blockLt {w : World} {a : Option Addr} {n cap : Nat} {ys : List Int} (h : IsB w (.slice a n cap) ys) (hp : 0 < n) : ∀ ad, a = some ad → ad.block < w.heap.size := by
  have hn := h.lenEq
  obtain ⟨_, a', cp', hv, _, _, _, hc⟩ := h
  injection hv with e1 e2 e3
  obtain ⟨b, off, ha, hcell⟩ := hc (by omega)
  intro ad had
  rw [e1, ha] at had
  injection had with had
  subst had
  exact World.block_lt_of_cell? w ⟨b, off + 0, none⟩ (hcell 0 (by omega))
theorem keyV_len (xs : List Int) : ((shaOf xs).map (Value.int .u8)).length = 32 := by rw [List.length_map, shaOf, keyB_len]

set_option maxRecDepth 100000 in
set_option maxHeartbeats 2000000 in
theorem sums_in (b off n cap : Nat) (xss : List (List Int)) (w : World) (hn : n = xss.length) (hl : n ≤ cap) (hm : cap ≤ 9223372036854775807) (hs : xss.flatten.length ≤ 140737488350000) (hT : TabK w) (hTS : TabS w)
    (hcell : ∀ j, j < n → ∃ u, w.cell? ⟨b, off + j, none⟩ = some u ∧ IsB w u (xss.getD j [])) :
    Calls Tryz.prog 23 #[.slice (some ⟨b, off, none⟩) n cap] w fun e w' => e = .returned (keyV xss.flatten) ∧ Below w.heap.size w w' := by
  have HN := hide hn
  have HC := hide hcell
  have HS := hide hs
  have HT := hide hT
  have hR1 := Arr.new w (row32 []) 32
  have hB1 := (Below.refl w.heap.size w).alloc (Nat.le_refl _) (.cells (row32 []).toArray 32)
  have HTS := hide (hTS.below hB1)
  have hKlt : 2 < w.heap.size := World.block_lt_of_cell? w _ (hT 0 (by decide))
  clear hn hcell hs hT hTS
  go_enter Tryz.func23, Tryz.ntmps23
  go_wp2_with (go_at_call 38; refine (shaNew_calls (unhide HTS)).mono ?_; rintro e w2 ⟨rfl, hH2, hb2⟩)
  have hR2 := hR1.below hb2
  have hB2 := below_then hB1 hb2
  rw [size_alloc] at hH2
  clear hR1 hB1 hb2
  go_loopw [9] (fun i wr => ∃ k : Nat, k ≤ n ∧ i = .int .i64 (k : Int) ∧ IsHash wr (w.heap.size + 1) (xss.take k).flatten ∧ Arr wr w.heap.size 32 (row32 []) ∧ Below w.heap.size w wr) (fun i _ => n - (intOf i).toNat)
  case atStart => exact ⟨0, by omega, rfl, hH2, hR2, hB2⟩
  case round =>
    clear hH2 hR2 hB2
    obtain ⟨k, hk, rfl, hH, hR, hnx⟩ := hrel
    have hsz := hnx.size
    by_cases hlt : k < n
    · have hkx : k < xss.length := by rw [← HN.out]; exact hlt
      obtain ⟨u, hu, hb0⟩ := unhide HC k hlt
      have hb := hb0.below hnx
      have hu1 : wr.cell? ⟨b, off + k, none⟩ = some u := (hnx.cell (p := ⟨b, off + k, none⟩) (World.block_lt_of_cell? w _ hu)).trans hu
      have hft := flatten_take hkx
      have hfl := flatten_le (xss := xss) (k + 1)
      rw [hft, List.length_append] at hfl
      have hfl2 := Nat.le_trans hfl HS.out
      have HFT := hide hft
      generalize hxs : xss.getD k [] = xs at *
      obtain ⟨a, m, cp, rfl⟩ := hb.shape
      have HW : Hid (Calls Tryz.prog 39 #[.pointer (some ⟨w.heap.size + 1, 0, none⟩), .slice a m cp] wr fun e w' => (∃ v, e = .returned v) ∧ IsHash w' (w.heap.size + 1) ((xss.take k).flatten ++ xs) ∧ wr.grownBy w' (some (w.heap.size + 1))) :=
        write_calls hH hb (fun hp ad had => by have := hb0.blockLt hp ad had; omega) hfl2 ((unhide HT).below hnx) (by omega)
      clear hft hfl hfl2 hu hb0 hxs hkx hb
      go_wp2_with (go_at_call 39; refine (unhide HW).mono ?_; rintro e w5 ⟨⟨v5, rfl⟩, hH5, hg5⟩)
      go_roundw
      case rel => exact ⟨k + 1, by omega, by go_num, by rw [HFT.out]; exact hH5, hR.keep (hg5.block _ hR.lt (by simp)), hnx.grown hg5 hsz (fun j hj => by injection hj with hj; omega)⟩
      case measure => simp [intOf]; omega
    · have hkn : k = n := by omega
      have e : xss.take k = xss := List.take_of_length_le (by rw [← HN.out, hkn]; exact Nat.le_refl _)
      rw [e] at hH
      have HK := hide (keys_calls hH ((unhide HT).below hnx))
      have hi48 : (Tryz.prog.info? 32).map (·.size) = some ((shaOf xss.flatten).map (Value.int .u8)).length := by rw [keyV_len]; kernel_rfl
      have hl48 : (row32 []).length = ((shaOf xss.flatten).map (Value.int .u8)).length := by rw [keyV_len]; rfl
      have hone48 := u8_one (shaOf xss.flatten)
      have HKV : Hid (keyV xss.flatten = .agg ((shaOf xss.flatten).map (Value.int .u8)).toArray) := rfl
      rw [HKV.out] at HK
      generalize (shaOf xss.flatten).map (Value.int .u8) = KV at *
      clear hkn e hH
      go_wp2_with (first
        | (go_at_call 40; refine (unhide HK).mono ?_; rintro e w7 ⟨rfl, hb7⟩; have hR7 := hR.below hb7)
        | (refine wpList_storeArr2 (cs' := KV) rfl (.tmp 2) (.tmp 18) 32 rfl rfl rfl hR7 hi48 hl48 hone48 ?_; intro w8 hR8 hw8))
      exact bodyPost_ret (v := .agg KV.toArray) (results_arr rfl rfl hR8 Tryz.underlying32 hi48) rfl ⟨by rw [HKV.out], hw8.below _ _ (below_then hnx hb7) (Nat.le_refl _)⟩

set_option maxRecDepth 100000 in
set_option maxHeartbeats 2000000 in
theorem sums_none (a : Option Addr) (cap : Nat) (w : World) (hT : TabK w) (hTS : TabS w) :
    Calls Tryz.prog 23 #[.slice a 0 cap] w fun e w' => e = .returned (keyV []) ∧ Below w.heap.size w w' := by
  have HT := hide hT
  have hR1 := Arr.new w (row32 []) 32
  have hB1 := (Below.refl w.heap.size w).alloc (Nat.le_refl _) (.cells (row32 []).toArray 32)
  have HTS := hide (hTS.below hB1)
  clear hT hTS
  go_enter Tryz.func23, Tryz.ntmps23
  go_wp2_with (go_at_call 38; refine (shaNew_calls (unhide HTS)).mono ?_; rintro e w2 ⟨rfl, hH2, hb2⟩)
  have hR2 := hR1.below hb2
  have hB2 := below_then hB1 hb2
  rw [size_alloc] at hH2
  clear hR1 hB1 hb2
  refine wp_loop_rounds 1 ?_
  rw [rounds_succ]
  have HK := hide (keys_calls hH2 ((unhide HT).below hB2))
  have hi48 : (Tryz.prog.info? 32).map (·.size) = some ((shaOf []).map (Value.int .u8)).length := by rw [keyV_len]; kernel_rfl
  have hl48 : (row32 []).length = ((shaOf []).map (Value.int .u8)).length := by rw [keyV_len]; rfl
  have hone48 := u8_one (shaOf [])
  have HKV : Hid (keyV [] = .agg ((shaOf []).map (Value.int .u8)).toArray) := rfl
  rw [HKV.out] at HK
  generalize (shaOf []).map (Value.int .u8) = KV at *
  clear hH2
  go_wp2_with (first
    | (go_at_call 40; refine (unhide HK).mono ?_; rintro e w7 ⟨rfl, hb7⟩; have hR7 := hR2.below hb7)
    | (refine wpList_storeArr2 (cs' := KV) rfl (.tmp 2) (.tmp 18) 32 rfl rfl rfl hR7 hi48 hl48 hone48 ?_; intro w8 hR8 hw8))
  exact bodyPost_ret (v := .agg KV.toArray) (results_arr rfl rfl hR8 Tryz.underlying32 hi48) rfl ⟨by rw [HKV.out], hw8.below _ _ (below_then hB2 hb7) (Nat.le_refl _)⟩

/-- sha.Sum, of all parts. -/
theorem sums_calls {w : World} {v : Value} {xss : List (List Int)} (h : IsBB w v xss) (hs : xss.flatten.length ≤ 140737488350000) (hT : TabK w) (hTS : TabS w) :
    Calls Tryz.prog 23 #[v] w fun e w' => e = .returned (keyV xss.flatten) ∧ Below w.heap.size w w' := by
  obtain ⟨a, cap, rfl, hl, hm, hc⟩ := h
  by_cases h0 : 0 < xss.length
  · obtain ⟨b, off, rfl, hcell⟩ := hc h0
    exact sums_in b off _ cap xss w rfl hl hm hs hT hTS hcell
  · obtain rfl : xss = [] := List.eq_nil_of_length_eq_zero (by omega)
    exact sums_none a cap w hT hTS
end Go.Proofs.YtfhfobikbfbajaaGreatDoor

namespace Go.Proofs.YtfhfobikbfbajaaGreatDoor
open Go.RowKit

set_option maxHeartbeats 400000 in
theorem uint_calls (V : Int) (w : World) (h0 : 0 ≤ V) (h1 : V < 2 * 128 ^ 9) :
    Calls Tryz.prog 64 #[.int .u64 V] w fun e w' => ∃ v, e = .returned v ∧
      w'.ownsRow w.heap.size 5 1 v (uBytes V).length ((uBytes V).map (Value.int .u8)) ∧ Below w.heap.size w w' := by
  obtain ⟨i0, hi, hz0, hz1, hz2⟩ := info_parts info8
  have hmk : ∀ w : World, (Instr.makeSlice 65 (.int .i64 0) (.int .i64 10)).run Tryz.prog w = .ok (.slice (some ⟨w.heap.size, 0, none⟩) 0 10) (w.alloc (.cells #[.int .u8 0, .int .u8 0, .int .u8 0, .int .u8 0, .int .u8 0, .int .u8 0, .int .u8 0, .int .u8 0, .int .u8 0, .int .u8 0] 5)) := fun _ => by kernel_rfl
  have H1 : Hid (V < 2 * 128 ^ 9) := h1
  clear h1
  go_enter Tryz.func64, Tryz.ntmps64
  go_wp2
  clear hmk
  go_loopw [0, 3] (fun v b wr => ∃ (f : Nat) (x : Int) (pre : List Int), v = .int .u64 x ∧ 0 ≤ x ∧ Hid (x < 2 * 128 ^ f) ∧ Hid (uBytes V = pre ++ uB f x) ∧ Hid (pre.length + f = 9) ∧ pre.length ≤ 9 ∧
      wr.ownsRow w.heap.size 5 1 b pre.length (pre.map (Value.int .u8)) ∧ Below w.heap.size w wr)
    (fun v _ _ => (intOf v).toNat)
  case atStart =>
    exact ⟨9, V, [], rfl, h0, H1, rfl, rfl, by simp, World.ownsRow_made _ _ 10 (Nat.le_refl _) (by unfold maxLen; omega) (by simp), (Below.refl _ _).alloc (Nat.le_refl _) _⟩
  case round =>
    obtain ⟨f, x, pre, rfl, hx0, HX, HE, HF, hp9, hown, hnx⟩ := hrel
    have hsz := hnx.size
    by_cases hlt : 128 ≤ x
    · have hor : bits .or .u8 (x % 256) 128 = x % 128 + 128 := by rw [or128 (by omega) (by omega)]; omega
      go_wp2_with (first
        | (at_builtin; refine wpList_append_own _ rfl _ _ 65 rfl w.heap.size 5 i0 (.int .u8 0) 1 1 Tryz.underlying65 hi hz0 hz1 hz2 rfl (by decide) _ _ _ rfl (hown.alloc _) ⟨wr.heap.size, 0, none⟩ 1 1 [.int .u8 (x % 128 + 128)] rfl rfl (cell_one_new _ _ _) (one_u8 _) (by unfold maxLen; omega) (by omega) (by simp; omega) ?_; intro v' w3 hown' hgrow hnil))
      obtain ⟨g, rfl⟩ := top_pos HX.out hlt
      have HL := HF.out
      go_roundw
      case rel =>
        exact ⟨g, x / 128, pre ++ [x % 128 + 128], rfl, by omega, top_step HX.out, by show uBytes V = _; rw [HE.out, uB_more (by omega)]; simp, by show _ = _; simp; omega, by simp; omega, by simpa using hown',
          (hnx.alloc hsz _).grown hgrow (by simp; omega) (fun k hk => (hown.lt k hk).1)⟩
      case measure => simp [intOf]; omega
    · go_wp2_with (first
        | (at_builtin; refine wpList_append_own _ rfl _ _ 65 rfl w.heap.size 5 i0 (.int .u8 0) 1 1 Tryz.underlying65 hi hz0 hz1 hz2 rfl (by decide) _ _ _ rfl (hown.alloc _) ⟨wr.heap.size, 0, none⟩ 1 1 [.int .u8 x] rfl rfl (cell_one_new _ _ _) (one_u8 _) (by unfold maxLen; omega) (by omega) (by simp; omega) ?_; intro v' w3 hown' hgrow hnil))
      go_ret
      refine ⟨_, rfl, ?_, (hnx.alloc hsz _).grown hgrow (by simp; omega) (fun k hk => (hown.lt k hk).1)⟩
      rw [HE.out, uB_last (by omega)]
      simpa using hown'
end Go.Proofs.YtfhfobikbfbajaaGreatDoor

namespace Go.Proofs.YtfhfobikbfbajaaGreatDoor
open Go.RowKit

end Go.Proofs.YtfhfobikbfbajaaGreatDoor

namespace Go.Proofs.YtfhfobikbfbajaaGreatDoor
open Go.RowKit

set_option maxHeartbeats 400000 in
theorem bytes_some (ad : Addr) (cap : Nat) (xs : List Int) (w : World) (hl : xs.length ≤ 140737488351232)
    (hc : ∀ j u, (xs.map (Value.int .u8))[j]? = some u → w.cell? (ad.add j) = some u) :
    Calls Tryz.prog 41 #[.slice (some ad) xs.length cap] w fun e w' => ∃ v, e = .returned v ∧
      w'.ownsRow w.heap.size 5 1 v (bB xs).length ((bB xs).map (Value.int .u8)) ∧ Below w.heap.size w w' := by
  obtain ⟨i0, hi, hz0, hz1, hz2⟩ := info_parts info8
  have HC := hide hc
  clear hc
  go_enter Tryz.func41, Tryz.ntmps41
  go_wp2_with fail
  refine (uint_calls _ _ (by omega) (top9 (by omega))).mono ?_
  rintro e w1 ⟨v1, rfl, hown, hbel⟩
  have hsz := hbel.size
  have hul := (uB_len 9 xs.length).2
  have HU : Hid ((uBytes xs.length).length ≤ 10) := hul
  have hn : (uBytes (xs.length : Int)).length + xs.length ≤ 140737488355328 := by have := HU.out; omega
  have hc1 : ∀ j u, (xs.map (Value.int .u8))[j]? = some u → w1.cell? (ad.add j) = some u := fun j u hj =>
    (hbel.cell (World.block_lt_of_cell? w _ (unhide HC j u hj))).trans (unhide HC j u hj)
  have HC1 := hide hc1
  clear hul hc1
  go_wp2_with (at_builtin; refine wpList_append_own _ rfl _ _ 65 rfl w.heap.size 5 i0 (.int .u8 0) 1 1 Tryz.underlying65 hi hz0 hz1 hz2 rfl (by decide) _ _ _ rfl hown ad xs.length cap (xs.map (Value.int .u8)) rfl (by simp) (unhide HC1) (u8_one xs) (by unfold maxLen; omega) (by omega) hsz ?_; intro v2 w2 hown2 hgrow hnil)
  go_ret
  refine ⟨_, rfl, ?_, hbel.grown hgrow hsz (fun k hk => (hown.lt k hk).1)⟩
  simpa [bB] using hown2

set_option maxHeartbeats 400000 in
theorem bytes_nil (w : World) :
    Calls Tryz.prog 41 #[.slice none 0 0] w fun e w' => ∃ v, e = .returned v ∧
      w'.ownsRow w.heap.size 5 1 v (bB []).length ((bB []).map (Value.int .u8)) ∧ Below w.heap.size w w' := by
  obtain ⟨i0, hi, hz0, hz1, hz2⟩ := info_parts info8
  go_enter Tryz.func41, Tryz.ntmps41
  go_wp2_with fail
  refine (uint_calls _ _ (by omega) (top9 (by omega))).mono ?_
  rintro e w1 ⟨v1, rfl, hown, hbel⟩
  go_wp2_with (at_builtin; refine wpList_append_own_none rfl _ _ 65 rfl w.heap.size 5 i0 1 Tryz.underlying65 hi _ _ _ rfl hown rfl ?_)
  go_ret
  exact ⟨_, rfl, by simpa [bB] using hown, hbel⟩

/-- wire.Bytes, of every slice. -/
theorem bytes_calls {w : World} {v : Value} {xs : List Int} (h : IsB w v xs) (hl : xs.length ≤ 140737488351232) :
    Calls Tryz.prog 41 #[v] w fun e w' => ∃ v, e = .returned v ∧
      w'.ownsRow w.heap.size 5 1 v (bB xs).length ((bB xs).map (Value.int .u8)) ∧ Below w.heap.size w w' := by
  have h' := h
  obtain ⟨_, a, cap, rfl, _, _, hz, hc⟩ := h
  cases a with
  | none =>
    have h0 : xs = [] := by
      by_cases hp : 0 < xs.length
      · obtain ⟨b, off, ha, _⟩ := hc hp
        cases ha
      · exact List.eq_nil_of_length_eq_zero (by omega)
    subst h0
    rw [hz rfl]
    exact bytes_nil w
  | some ad => exact bytes_some ad cap xs w hl h'.cells
end Go.Proofs.YtfhfobikbfbajaaGreatDoor

namespace Go.Proofs.YtfhfobikbfbajaaGreatDoor
open Go.RowKit Go.Maps

theorem infoBs : (Tryz.prog.info? 65).map (fun i => (i.zero, i.size, i.bytes)) = some (some (.slice none 0 0), 1, 24) := by kernel_rfl
/-- Rows of bytes in a row of one's own. -/
structure Px (w0 W : World) (v : Value) (xss : List (List Int)) : Prop where
  row : ∃ us : List Value, Row W w0.heap.size 65 v us ∧ us.length = xss.length ∧ ∀ j, j < us.length → Own8 W w0.heap.size (us.getD j (.slice none 0 0)) (xss.getD j [])
  old : Below w0.heap.size w0 W
section
variable {w0 W W' : World} {v v' u : Value} {xss : List (List Int)} {xs : List Int}
theorem Px.below (h : Px w0 W v xss) (hb : Below W.heap.size W W') : Px w0 W' v xss := by
  obtain ⟨us, h1, h2, h3⟩ := h.row
  exact ⟨⟨us, owns_below h1 hb, h2, fun j hj => (h3 j hj).below hb⟩, h.old.trans (hb.mono h.old.size)⟩
theorem row_ne8 {B : Nat} {us : List Value} {xs : List Int} (h : Row W B 65 v us) (h8 : Own8 W B u xs) {g : Nat} (hg : v.ownBlock = some g) : u.ownBlock ≠ some g := fun e => by
  rcases h.2 with ⟨q, _⟩ | ⟨g1, cap, cur, q, _, k1, _⟩
  · rw [q] at hg; cases hg
  · rcases h8.1.2 with ⟨q2, _⟩ | ⟨g2, cap2, cur2, q2, _, k2, _⟩
    · rw [q2] at e; cases e
    · rw [q] at hg
      rw [q2] at e
      have e1 : g1 = g := by injection hg
      have e2 : g2 = g := by injection e
      subst e1; subst e2
      rw [k1] at k2
      injection k2 with k2
      injection k2 with _ k2
      exact absurd k2 (by decide)
theorem own8_row {B : Nat} {us : List Value} {xs : List Int} (h : Row W B 65 v us) (h8 : Own8 W B u xs) (hg : W.grownBy W' v.ownBlock) : Own8 W' B u xs := by
  refine ⟨World.ownsRow.kept h8.1 hg ?_, h8.2⟩
  cases hv : v.ownBlock with
  | none => cases u.ownBlock <;> simp
  | some g => exact Or.inr (row_ne8 h h8 hv)
theorem Px.add (h : Px w0 W v xss) {us : List Value} (hr : Row W w0.heap.size 65 v us) (hl : us.length = xss.length) (h8 : ∀ j, j < us.length → Own8 W w0.heap.size (us.getD j (.slice none 0 0)) (xss.getD j [])) (hu : Own8 W w0.heap.size u xs)
    (hr' : Row W' w0.heap.size 65 v' (us ++ [u])) (hg : W.grownBy W' v.ownBlock) : Px w0 W' v' (xss ++ [xs]) := by
  refine ⟨⟨us ++ [u], hr', by simp [hl], fun j hj => ?_⟩, h.old.grown hg h.old.size (fun k hk => (World.ownsRow.lt hr k hk).1)⟩
  by_cases hj2 : j < us.length
  · have := own8_row hr (h8 j hj2) hg
    rw [List.getD_eq_getElem?_getD, List.getElem?_append_left hj2, ← List.getD_eq_getElem?_getD, List.getD_eq_getElem?_getD (l := xss ++ [xs]), List.getElem?_append_left (by omega), ← List.getD_eq_getElem?_getD]
    exact this
  · have e : j = us.length := by simp at hj; omega
    subst e
    have := own8_row hr hu hg
    rw [List.getD_eq_getElem?_getD, List.getElem?_append_right (Nat.le_refl _), List.getD_eq_getElem?_getD, List.getElem?_append_right (by omega), Nat.sub_self, hl, Nat.sub_self]
    exact this
end
def xsB (k : List UInt8) : List Int := bB (iL k)
theorem xsB_eq {k : List UInt8} (h : k.length ≤ 1000000000) : xsB k = iL (uvL k.length ++ k) := by
  unfold xsB bB
  rw [iL_app, iL_len]
  have := iL_uvF 9 k.length (Nat.lt_of_le_of_lt h (by decide))
  show uBytes _ ++ _ = iL (uvF 9 k.length) ++ _
  rw [this]
  rfl
def xssB (s : ByteArray) (ks : List (List UInt8)) : List (List Int) := xsB (byL s) :: ks.map xsB
theorem xss_flat {s : ByteArray} {ks : List (List UInt8)} (hs : s.size ≤ 1000000000) (hk : ∀ k ∈ ks, k.length = 32) : (xssB s ks).flatten = iL (dBy s ks) := by
  unfold xssB dBy
  rw [List.flatten_cons, iL_app, xsB_eq (by rw [byL_len]; exact hs), byL_len]
  congr 1
  induction ks with
  | nil => rfl
  | cons k ks ih =>
    rw [List.map_cons, List.flatten_cons, List.flatMap_cons, iL_app, ih (fun x hx => hk x (List.mem_cons_of_mem _ hx)), xsB_eq (by rw [hk k (by simp)]; decide), hk k (by simp)]
    rfl
theorem isB_key {W : World} {g : Nat} {k : List UInt8} (h : Arr W g 32 (kyC k)) (hk : k.length = 32) : IsB W (.slice (some ⟨g, 0, none⟩) 32 32) (iL k) := by
  refine ⟨bytes_mem (fun x hx => ?_), some ⟨g, 0, none⟩, 32, by rw [iL_len, hk], by rw [iL_len, hk]; exact Nat.le_refl _, by decide, (fun e => by cases e), fun _ => ⟨g, 0, rfl, fun j hj => ?_⟩⟩
  · obtain ⟨q, _, rfl⟩ := List.mem_map.1 hx
    have := q.toNat_lt
    exact ⟨by omega, by omega⟩
  · rw [Nat.zero_add, h.cell j]
    unfold kyC
    rw [List.getElem?_map, List.getD_eq_getElem?_getD, List.getElem?_eq_getElem hj]
    rfl
theorem Px.shape {w0 W : World} {v : Value} {xss : List (List Int)} (h : Px w0 W v xss) : ∃ a n c, v = .slice a n c := by
  obtain ⟨us, h1, _⟩ := h.row
  obtain ⟨x, y, e⟩ := h1.shape
  exact ⟨_, _, _, e⟩
theorem Px.isBB {w0 W : World} {v : Value} {xss : List (List Int)} (h : Px w0 W v xss) : IsBB W v xss := by
  obtain ⟨us, h1, h2, h3⟩ := h.row
  rcases h1.2 with ⟨hv, h0⟩ | ⟨g, cap, cur, hv, hb, hg, hnc, hcm, _⟩
  · exact ⟨none, 0, by rw [hv, ← h2, h0], by omega, by decide, fun hp => by omega⟩
  · refine ⟨some ⟨g, 0, none⟩, cap, by rw [hv, h2], by omega, by unfold maxLen at hcm; omega, fun hp => ⟨g, 0, rfl, fun j hj => ?_⟩⟩
    have hj2 : j < us.length := by omega
    refine ⟨us.getD j (.slice none 0 0), ?_, (h3 j hj2).isB⟩
    have := World.ownsRow.cells (g := g) h1 (by rw [hv]; rfl) j (us.getD j (.slice none 0 0)) (by rw [List.getD_eq_getElem?_getD, List.getElem?_eq_getElem hj2]; rfl)
    rw [Addr.add_lit] at this
    exact this
section
variable {ops : Array Oper} {rest : List Oper} {o : Oper} {a : Act} {Q : Exit → Act → World → Prop} {w0 W : World} {v u : Value} {xss : List (List Int)} {xs : List Int}
theorem wpList_pxA (hgd : o.guard = none) (x y : Operand) (ho : o.op = .call { callee := .builtin .append, args := #[x, y], argTypes := #[59, 59] }) (hx : a.eval x = v) (h : Px w0 W v xss) (hu : Own8 W w0.heap.size u xs) (hy : a.eval y = .slice (some ⟨W.heap.size, 0, none⟩) 1 1) (hl : xss.length ≤ 1000000)
    (hk : ∀ v' W', Px w0 W' v' (xss ++ [xs]) → wpList Tryz.prog ops Q rest (a.put o.dst v') W') : wpList Tryz.prog ops Q (o :: rest) a (W.alloc (.cells #[u] 65)) := by
  have h2 := h.below (jalloc_below W (.cells #[u] 65))
  have hu2 := hu.below (jalloc_below W (.cells #[u] 65))
  obtain ⟨us, k1, k2, k3⟩ := h2.row
  obtain ⟨au, nu, cu, e⟩ := hu.shape
  refine wpList_appRow (t := 65) (s := 1) Tryz.underlying59 infoBs (by simp [Value.cells]) (by decide) (by decide) hgd x y ho hx k1 hy (m := 1) rfl (ds := [u]) (by simp) (fun j z hz => ?_) (fun z hz => ?_) (by omega) h2.old.size (fun v' W' q1 q2 _ => hk v' W' (h2.add k1 k2 k3 hu2 (by unfold Row; rw [List.length_append]; exact q1) q2))
  · exact (cells_lit W [u] 65 j z hz)
  · rw [List.mem_singleton.1 hz, e]; rfl
end
theorem own8_xs {W : World} {B : Nat} {v : Value} {k : List UInt8} (hk : k.length ≤ 1000000000) (h : W.ownsRow B 5 1 v (xsB k).length ((xsB k).map (Value.int .u8))) : Own8 W B v (xsB k) := by
  refine ⟨h, fun x hx => ?_⟩
  rw [xsB_eq hk] at hx
  obtain ⟨q, _, rfl⟩ := List.mem_map.1 hx
  have := q.toNat_lt
  exact ⟨by omega, by omega⟩
set_option maxRecDepth 100000 in
set_option maxHeartbeats 4000000 in
theorem parts_calls {w W : World} {s : ByteArray} {v : Value} {ks : List (List UInt8)} (hK : IsKs w v ks) (hw : Below w.heap.size w W) (hs : s.size ≤ 100000000) (hn : ks.length ≤ 1000) :
    Calls Tryz.prog 24 #[.string s, v] W fun e W' => ∃ v', e = .returned v' ∧ Px W W' v' (xssB s ks) := by
  obtain ⟨i0, hi, hz0, hz1, hz2⟩ := info_parts infoBs
  obtain ⟨a, c, rfl, hlc, hmc, _, hcc, h32⟩ := hK
  have hli : (ks.length : Int) ≤ 1000 := by omega
  have HC := hide hcc
  have H32 := hide h32
  have HW := hide hw
  have HN := hide hn
  have hwn : IntKind.i64.wrap (1 + (ks.length : Int)) = ((1 + ks.length : Nat) : Int) := by rw [IntKind.wrap_i64]; omega
  have HCV := hide (fun W2 => str_bytesP s (by omega) W2)
  have HSL : Hid ((byL s).length ≤ 100000000) := hide (by rw [byL_len]; exact hs)
  clear hcc h32 hw hn hs hlc hmc
  go_enter Tryz.func24, Tryz.ntmps24
  go_wp2_with (first
    | (at_make; refine wpList_make_own _ rfl _ _ 59 rfl W.heap.size 65 i0 (.slice none 0 0) 1 Tryz.underlying59 hi hz0 hz1 .i64 .i64 _ (1 + ks.length) rfl rfl rfl (by rw [hz2]; have := HN.out; omega) (by unfold maxLen; have := HN.out; omega) (Nat.le_refl _) ?_; intro w1 hown hgrow; have HO1 := hide hown; have HB1 := hide ((Below.refl W.heap.size W).grown hgrow (Nat.le_refl _) (fun k hk => by cases hk)); clear hown hgrow; obtain ⟨c8, N, hcv, hiN, hsN, hbN⟩ := HCV.out w1; have HBY := hide (bytes_calls hiN (by rw [iL_len]; have := HSL.out; omega)); have HPX := hide ((Px.mk ⟨[], HO1.out, rfl, fun j hj => by simp at hj⟩ HB1.out : Px W w1 _ []).below hbN); clear hiN hsN hbN)
    | fail)
  refine (unhide HBY).mono ?_
  rintro e w3 ⟨u3, rfl, ho3, hb3⟩
  have HU3 := hide (own8_xs (k := byL s) (by have := HSL.out; omega) (owns_mono ho3 HPX.out.old.size))
  have HP3 := hide (HPX.out.below hb3)
  obtain ⟨a3, n3, c3, hv3⟩ := HU3.out.shape
  subst hv3
  clear ho3 hb3 HBY
  go_wp2_with (first
    | (at_builtin; refine wpList_pxA rfl (.tmp 12) (.tmp 16) rfl rfl HP3.out HU3.out rfl (by simp) ?_; intro v5 w5 hP5; have HP5 := hide hP5; clear hP5)
    | fail)
  go_loopw [5, 20] (fun ov iv wr => ∃ i : Nat, iv = .int .i64 (i : Int) ∧ i ≤ ks.length ∧ Hid (Px W wr ov (xsB (byL s) :: (ks.take i).map xsB))) (fun _ iv _ => ks.length - (intOf iv).toNat)
  case atStart => exact ⟨0, rfl, Nat.zero_le _, hide HP5.out⟩
  case round =>
    obtain ⟨i, rfl, hiq, HJ⟩ := hrel
    obtain ⟨aj, nj, cj, hvj⟩ := HJ.out.shape
    subst hvj
    by_cases hlt : i < ks.length
    · have hlti : (i : Int) < (ks.length : Int) := by omega
      obtain ⟨b, o, rfl, hcl⟩ := HC.out (by omega)
      have hrr := rangeAt_below (hcl i hlt) (HW.out.trans (HJ.out.old.mono HW.out.size))
      have hmem : ks.getD i [] ∈ ks := by rw [List.getD_eq_getElem?_getD, List.getElem?_eq_getElem hlt]; exact List.getElem_mem hlt
      have hkl := H32.out _ hmem
      have HST : Hid ((ks.take (i + 1)).map xsB = (ks.take i).map xsB ++ [xsB (ks.getD i [])]) := hide (by rw [List.take_succ_eq_append_getElem hlt, List.map_append, List.getD_eq_getElem?_getD, List.getElem?_eq_getElem hlt]; rfl)
      obtain ⟨ky, hky⟩ : ∃ k, k = ks.getD i [] := ⟨_, rfl⟩
      rw [← hky] at hrr hkl HST
      have HKL := hide hkl
      have hkc : (kyC ky).length = 32 := by unfold kyC; rw [List.length_map, iL_len]; exact hkl
      have hwi : IntKind.i64.wrap ((i : Int) + 1) = ((i + 1 : Nat) : Int) := by rw [IntKind.wrap_i64]; omega
      clear hcl hmem hky hkl
      go_wp2_with (first
        | (refine wpList_loadJ rfl 32 (.tmp 22) rfl b (o + i * 32) rfl (kyC ky) _ hrr Tryz.underlying32 rfl (infoKys hkc) ?_)
        | (refine wpList_allocJ rfl 32 rfl infoKyz ?_)
        | (refine wpList_storeJ rfl (.tmp 7) (.tmp 23) 32 rfl rfl rfl (Arr.new wr zKy 32) (infoKys hkc) (by rw [hkc]; rfl) (key_one (iL ky)) ?_; intro w9 hA9 hg9; have HX9 := hide (jbelow_grown (jalloc_below wr (.cells zKy.toArray 32)) hg9 (by simp) (Nat.le_refl _)); have HA9 := hide hA9; clear hA9 hg9 hrr)
        | fail)
      have HJ9 := hide (HJ.out.below HX9.out)
      have HBK := hide (bytes_calls (isB_key HA9.out HKL.out) (by rw [iL_len, HKL.out]; decide))
      refine (unhide HBK).mono ?_
      rintro e w10 ⟨u10, rfl, ho10, hb10⟩
      have HU10 := hide (own8_xs (k := ky) (by rw [HKL.out]; decide) (owns_mono ho10 HJ9.out.old.size))
      have HJ10 := hide (HJ9.out.below hb10)
      obtain ⟨a10, n10, c10, hv10⟩ := HU10.out.shape
      subst hv10
      clear ho10 hb10 HBK hkc
      go_wp2_with (first
        | (at_builtin; refine wpList_pxA rfl (.tmp 24) (.tmp 27) rfl rfl HJ10.out HU10.out rfl (by have := HN.out; rw [List.length_cons, List.length_map, List.length_take]; omega) ?_; intro v11 w11 hP11; have HP11 := hide hP11; clear hP11)
        | fail)
      go_roundw
      case rel => exact ⟨i + 1, by go_num, by omega, hide (by rw [HST.out]; exact HP11.out)⟩
      case measure => simp [intOf]; omega
    · have hlti : ¬ (i : Int) < (ks.length : Int) := by omega
      have hltd : decide ((i : Int) < (ks.length : Int)) = false := decide_eq_false hlti
      have HF : Hid (Px W wr (.slice aj nj cj) (xssB s ks)) := hide (by have := HJ.out; rw [show i = ks.length by omega, List.take_length] at this; exact this)
      go_wp2
      go_ret
      exact ⟨_, rfl, HF.out⟩
end Go.Proofs.YtfhfobikbfbajaaGreatDoor

namespace Go.Proofs.YtfhfobikbfbajaaGreatDoor
open Go.RowKit Go.Maps

set_option maxRecDepth 100000 in
set_option maxHeartbeats 4000000 in
theorem pFing_calls {w : World} {D : Nat} {t : Tsk} {vi vo v : Value} {ks : List (List UInt8)} (hi : IsS w vi t.ins) (ho : IsOu w D vo t.outs) (hK : IsKs w v ks) (hs : smK t) (hl : tskW t ≤ 50000000) (hn : ks.length ≤ 1000) (hP : Pg w) (hTK : TabK w) (hTS : TabS w) :
    Calls Tryz.prog 11 #[.agg (tsC t.name t.budget vi vo).toArray, v] w fun e w' => e = .returned (.tuple #[.agg (fpK t ks).toArray, .int .i64 (fpE t ks)]) ∧ Below w.heap.size w w' := by
  have hT := @isTas_lit
  obtain ⟨nm, bd, ins, outs⟩ := t
  have HT := hide (fun (W : World) (hb : Below w.heap.size w W) => text_calls (hT (W := W) (D := D) (nm := nm) (bd := bd) (hi.below hb) (ho.below hb)) (fun t' ht' => by rw [List.mem_singleton.1 ht']; exact hs) (by unfold manW; simp; have : tskW ⟨nm, bd, ins, outs⟩ ≤ 50000000 := hl; omega) ((hP.below hb).below (jalloc_below W _)))
  obtain ⟨ai, ci, rfl⟩ : ∃ a c, vi = .slice a ins.length c := by obtain ⟨a, c, e, _⟩ := hi; exact ⟨a, c, e⟩
  obtain ⟨ao, co, rfl, _, _⟩ := ho.shape
  have HK := hide hK
  obtain ⟨ak, ck, rfl, hkc, hkm⟩ : ∃ a c, v = .slice a ks.length c ∧ ks.length ≤ c ∧ c ≤ 9223372036854775807 := by obtain ⟨a, c, e, h1, h2, _⟩ := hK; exact ⟨a, c, e, h1, h2⟩
  obtain ⟨ok, hok⟩ : ∃ q, q = manO nameB ptW clB [⟨nm, bd, ins, outs⟩] := ⟨_, rfl⟩
  obtain ⟨TX, hTX⟩ : ∃ q, q = fpT ⟨nm, bd, ins, outs⟩ := ⟨_, rfl⟩
  have HT2 : Hid (∀ W : World, Below w.heap.size w W → Calls Tryz.prog 15 #[.slice (some ⟨W.heap.size, 0, none⟩) 1 1] (W.alloc (.cells (tsC nm bd (.slice ai ins.length ci) (.slice ao outs.length co)).toArray 25)) fun e w' => e = .returned (.tuple #[.string TX, .int .i64 (if ok = true then 0 else 127)]) ∧ Below (W.alloc (.cells (tsC nm bd (.slice ai ins.length ci) (.slice ao outs.length co)).toArray 25)).heap.size (W.alloc (.cells (tsC nm bd (.slice ai ins.length ci) (.slice ao outs.length co)).toArray 25)) w') := hide (fun W hb => (HT.out W hb).mono fun e w' ⟨e1, e2⟩ => ⟨by rw [e1, hTX, hok]; rfl, e2⟩)
  have hE : fpE ⟨nm, bd, ins, outs⟩ ks = if ok = true then (if ks.length = ins.length then 0 else 150) else 127 := by unfold fpE; rw [hok]
  have hKK : fpK ⟨nm, bd, ins, outs⟩ ks = if fpE ⟨nm, bd, ins, outs⟩ ks = 0 then (shaOf (iL (dBy TX ks))).map (Value.int .u8) else zKy := by unfold fpK; rw [hTX]
  obtain ⟨E0, hE0⟩ : ∃ q, q = fpE ⟨nm, bd, ins, outs⟩ ks := ⟨_, rfl⟩
  obtain ⟨K0, hK0⟩ : ∃ q, q = fpK ⟨nm, bd, ins, outs⟩ ks := ⟨_, rfl⟩
  show Calls _ _ _ _ fun e w' => e = .returned (.tuple #[.agg (fpK ⟨nm, bd, ins, outs⟩ ks).toArray, .int .i64 (fpE ⟨nm, bd, ins, outs⟩ ks)]) ∧ _
  rw [← hE0] at hE hKK ⊢
  rw [← hK0] at hKK ⊢
  have HTS : Hid (TX.size ≤ 100000000) := hide (by
    rw [hTX]
    unfold fpT
    by_cases hm : manO nameB ptW clB [⟨nm, bd, ins, outs⟩] = true
    · rw [if_pos hm]
      have hm2 := hm
      simp only [manO, Bool.and_eq_true] at hm2
      have h1 := tsO_ok hm2.2 ⟨nm, bd, ins, outs⟩ (by simp)
      have h2 := skBy_len (t := ⟨nm, bd, ins, outs⟩) (by have := h1.1.1; omega) (by have := h1.1.2.1; omega) h1.2
      have h3 : tskW ⟨nm, bd, ins, outs⟩ ≤ 50000000 := hl
      have e : [(⟨nm, bd, ins, outs⟩ : Tsk)].flatMap skBy = skBy ⟨nm, bd, ins, outs⟩ := by simp
      rw [e]
      show (bs (skBy _)).size ≤ _
      rw [← byL_len]
      have e2 : byL (bs (skBy ⟨nm, bd, ins, outs⟩)) = skBy ⟨nm, bd, ins, outs⟩ := by simp [byL, bs]
      rw [e2]
      omega
    · rw [if_neg hm]
      decide)
  have HNK := hide hn
  have HDL : Hid ((dBy TX ks).length ≤ 200000000) := hide (by
    obtain ⟨_, _, _, _, _, _, _, h32⟩ := HK.out
    have h1 := kB_len ks h32
    have h2 := uvF_len 9 TX.size
    have h3 := HTS.out
    unfold dBy
    rw [List.length_append, List.length_append, h1, byL_len]
    unfold uvL
    omega)
  have HTK := hide hTK
  have HTSS := hide hTS
  have HFL : Hid ((xssB TX ks).flatten = iL (dBy TX ks)) := hide (xss_flat (by have := HTS.out; omega) (by obtain ⟨_, _, _, _, _, _, _, h32⟩ := HK.out; exact h32))
  have HE := hide hE
  have HKK := hide hKK
  clear HT hT hi ho hK hs hok hTX hE hKK hE0 hK0
  go_enter Tryz.func11, Tryz.ntmps11
  go_wp2_with (first
    | (refine wpList_boxJ rfl 25 (.tmp 0) rfl (cs := tsC nm bd (.slice ai ins.length ci) (.slice ao outs.length co)) rfl ?_; intro w2 hA2 hb2 hs2; have HA2 := hide hA2; have HB2 := hide hb2; have hr2 := hA2.rangeJ; clear hA2 hb2 hs2)
    | (refine wpList_allocJ rfl 32 rfl infoKyz ?_; have HA3 := hide (Arr.new w2 zKy 32); have HB3 := hide (below_then HB2.out (jalloc_below w2 (.cells zKy.toArray 32))); have hr3 := rangeAt_below hr2 (jalloc_below w2 (.cells zKy.toArray 32)); clear hr2)
    | (refine wpList_bldTs rfl (.tmp 9) rfl rfl ?_)
    | (refine wpList_loadJ rfl 25 (.tmp 2) rfl w.heap.size 0 rfl (tsC nm bd (.slice ai ins.length ci) (.slice ao outs.length co)) _ hr3 Tryz.underlying25 rfl (infoTss _ _ _ _) ?_)
    | fail)
  have HTC := hide (HT2.out (w2.alloc (.cells zKy.toArray 32)) HB3.out)
  rw [show (w2.alloc (.cells zKy.toArray 32)).heap.size = w2.heap.size + 1 by simp] at HTC
  have HTC2 : Hid (Calls Tryz.prog 15 #[.slice (some ⟨w2.heap.size + 1, 0, none⟩) 1 1] ((w2.alloc (.cells zKy.toArray 32)).alloc (.cells (tsC nm bd (.slice ai ins.length ci) (.slice ao outs.length co)).toArray 25)) fun e w' => e = .returned (.tuple #[.string TX, .int .i64 (if ok = true then 0 else 127)]) ∧ (Below w.heap.size w w' ∧ Arr w' w2.heap.size 32 zKy ∧ Arr w' w.heap.size 25 (tsC nm bd (.slice ai ins.length ci) (.slice ao outs.length co)))) := hide ((unhide HTC).mono fun e w' ⟨e1, e2⟩ => by
    have hb := below_then (jalloc_below w2 (.cells zKy.toArray 32)) (jalloc_below _ (.cells (tsC nm bd (.slice ai ins.length ci) (.slice ao outs.length co)).toArray 25))
    exact ⟨e1, (HB3.out.trans ((jalloc_below _ _).mono HB3.out.size)).trans (e2.mono (by have := HB3.out.size; simp at this ⊢; omega)), (HA3.out.below (jalloc_below _ _)).below e2, (HA2.out.below hb).below e2⟩)
  clear HTC
  refine (unhide HTC2).mono ?_
  rintro e w5 ⟨rfl, hx5⟩
  have HB5 := hide hx5.1
  have HA5 := hide hx5.2.1
  have HA2b := hide hx5.2.2
  have HG5 : Hid (w.heap.size ≤ w2.heap.size) := hide HB2.out.size
  clear hx5
  cases ok with
  | false =>
    have HEV : Hid (E0 = 127) := hide (by rw [HE.out]; rfl)
    have HKV : Hid (K0 = zKy) := hide (by rw [HKK.out, HEV.out]; rfl)
    go_wp2_with (first
      | (refine wpList_bldKy rfl rfl ?_)
      | (refine wpList_storeJ rfl (.tmp 4) (.tmp 16) 32 rfl rfl rfl HA5.out (infoKys rfl) rfl zKy_one ?_; intro w6 hA6 hg6; have HA6 := hide hA6; have HB6 := hide (fpB HB5.out HA5.out hg6 HG5.out); clear hA6 hg6)
      | fail)
    refine bodyPost_ret (results_kt (p := 4) (q := 5) (g := w2.heap.size) rfl rfl HA6.out rfl) rfl ?_
    exact ⟨by rw [HKV.out, HEV.out]; rfl, HB6.out⟩
  | true =>
    have c2 := (tsC_arr HA2b.out).2.2.1
    by_cases hq : ks.length = ins.length
    · have hqi : (ks.length : Int) = (ins.length : Int) := by omega
      have HEV : Hid (E0 = 0) := hide (by rw [HE.out, if_pos hq]; rfl)
      have HKV : Hid (K0 = (shaOf (iL (dBy TX ks))).map (Value.int .u8)) := hide (by rw [HKK.out, HEV.out]; rfl)
      have HBY := hide (parts_calls HK.out HB5.out (s := TX) HTS.out HNK.out)
      clear hq
      go_wp2_with fail
      refine (unhide HBY).mono ?_
      rintro e w6 ⟨v6, rfl, hp6⟩
      have HB6 := hide (HB5.out.trans (hp6.old.mono HB5.out.size))
      have HSM := hide (sums_calls hp6.isBB (by rw [HFL.out, iL_len]; have := HDL.out; omega) (HTK.out.below HB6.out) (HTSS.out.below HB6.out))
      rw [HFL.out] at HSM
      have HA6 := hide (HA5.out.below hp6.old)
      obtain ⟨a6, n6, c6, hv6⟩ := hp6.shape
      subst hv6
      clear hp6
      go_wp2_with fail
      refine (unhide HSM).mono ?_
      rintro e w7 ⟨rfl, hb7⟩
      have HB5 := hide (HB6.out.trans (hb7.mono HB6.out.size))
      have HA5 := hide (HA6.out.below hb7)
      have hkv : keyV (iL (dBy TX ks)) = .agg ((shaOf (iL (dBy TX ks))).map (Value.int .u8)).toArray := rfl
      rw [hkv]
      clear HB6 HA6 hb7 hkv
      go_wp2_with (first
        | (refine wpList_storeJ rfl (.tmp 4) (.tmp 28) 32 rfl rfl rfl HA5.out (infoKys (by rw [List.length_map]; exact shaOf_lenP _)) rfl (key_one _) ?_; intro w6 hA6 hg6; have HA6 := hide hA6; have HB6 := hide (fpB HB5.out HA5.out hg6 HG5.out); clear hA6 hg6)
        | fail)
      refine bodyPost_ret (results_kt (p := 4) (q := 5) (g := w2.heap.size) rfl rfl HA6.out (by rw [List.length_map]; exact shaOf_lenP _)) rfl ?_
      exact ⟨by rw [HKV.out, HEV.out]; rfl, HB6.out⟩
    · have hqi : ¬ (ks.length : Int) = (ins.length : Int) := by omega
      have hqd : decide ((ks.length : Int) = (ins.length : Int)) = false := decide_eq_false hqi
      have HEV : Hid (E0 = 150) := hide (by rw [HE.out, if_neg hq]; rfl)
      have HKV : Hid (K0 = zKy) := hide (by rw [HKK.out, HEV.out]; rfl)
      clear hq
      go_wp2_with (first
        | (refine wpList_bldKy rfl rfl ?_)
        | (refine wpList_storeJ rfl (.tmp 4) (.tmp 24) 32 rfl rfl rfl HA5.out (infoKys rfl) rfl zKy_one ?_; intro w6 hA6 hg6; have HA6 := hide hA6; have HB6 := hide (fpB HB5.out HA5.out hg6 HG5.out); clear hA6 hg6)
        | fail)
      refine bodyPost_ret (results_kt (p := 4) (q := 5) (g := w2.heap.size) rfl rfl HA6.out rfl) rfl ?_
      exact ⟨by rw [HKV.out, HEV.out]; rfl, HB6.out⟩
end Go.Proofs.YtfhfobikbfbajaaGreatDoor

namespace Go.Proofs.YtfhfobikbfbajaaGreatDoor
open Go.RowKit Go.Maps

theorem elemKs : Tryz.prog.underlying 26 = some (.slice (Tryz.prog.elem 26)) := by kernel_rfl
theorem sizeKs (W : World) : (sizeOf (Tryz.prog.elem 26)).run Tryz.prog W = .ok 32 W := by kernel_rfl
theorem slice_hK (b o n c m : Nat) (hm : m ≤ c) (W : World) (hm2 : m ≤ 9223372036854775807) : (Instr.sliceAt 26 (.slice (some ⟨b, o, none⟩) n c) none (some (.int .i64 (m : Int))) none).run Tryz.prog W = .ok (.slice (some ⟨b, o, none⟩) m c) W := by
  rw [run_sliceAt_slice W _ _ _ _ _ elemKs, run_slice_h W _ (some ⟨b, o, none⟩) n c elemKs .i64 m (by omega) (by omega), sizeKs]
  simp [Result.andThen, sliced]
  intro _
  rfl
theorem IsKs.cut {W : World} {a : Option Addr} {n c : Nat} {ks : List (List UInt8)} (h : IsKs W (.slice a n c) ks) {j : Nat} (hj : j ≤ n) : IsKs W (.slice a j c) (ks.take j) := by
  obtain ⟨a', c', hv, h1, h2, h3, h4, h5⟩ := h
  cases hv
  refine ⟨a, c, by rw [List.length_take]; congr 1; omega, by rw [List.length_take]; omega, h2, h3, fun hp => ?_, fun k hk => h5 k (List.mem_of_mem_take hk)⟩
  rw [List.length_take] at hp
  obtain ⟨b, o, ha, hc⟩ := h4 (by omega)
  refine ⟨b, o, ha, fun i hi => ?_⟩
  rw [List.length_take] at hi
  have := hc i (by omega)
  rw [List.getD_eq_getElem?_getD, List.getElem?_take_of_lt (by omega), ← List.getD_eq_getElem?_getD]
  exact this
set_option maxRecDepth 100000 in
set_option maxHeartbeats 4000000 in
theorem cutKeys_calls {w : World} {v : Value} {ks : List (List UInt8)} (hK : IsKs w v ks) : Calls Tryz.prog 10 #[v] w fun e w' => ∃ v', e = .returned v' ∧ IsKs w v' (ks.take 70) ∧ w' = w := by
  have HK := hide hK
  obtain ⟨a, c, rfl, hlc, hmc, hnc, hcc, _⟩ := hK
  by_cases h : 70 < ks.length
  · obtain ⟨b, o, rfl, _⟩ := hcc (by omega)
    have hx : (70 : Int) < (ks.length : Int) := by omega
    have hsl : (Instr.sliceAt 26 (.slice (some ⟨b, o, none⟩) ks.length c) none (some (.int .i64 70)) none).run Tryz.prog w = .ok (.slice (some ⟨b, o, none⟩) 70 c) w := slice_hK b o ks.length c 70 (by omega) w (by decide)
    have hci : (70 : Int) ≤ (c : Int) := by omega
    have hc70 : ¬ c = 0 := by omega
    have HR := hide (HK.out.cut (j := 70) (by omega))
    clear hlc hmc hnc hcc h
    go_enter Tryz.func10, Tryz.ntmps10
    go_wp2
    go_ret
    exact ⟨_, rfl, HR.out, rfl⟩
  · have hx : ¬ (70 : Int) < (ks.length : Int) := by omega
    have hxd : decide ((70 : Int) < (ks.length : Int)) = false := decide_eq_false hx
    have HR : Hid (IsKs w (.slice a ks.length c) (ks.take 70)) := hide (by rw [List.take_of_length_le (by omega)]; exact HK.out)
    clear hlc hmc hnc hcc h
    go_enter Tryz.func10, Tryz.ntmps10
    go_wp2
    go_ret
    exact ⟨_, rfl, HR.out, rfl⟩
end Go.Proofs.YtfhfobikbfbajaaGreatDoor
