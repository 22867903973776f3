/- Slices of bytes of the call's own: what holds of them in any seat. Slices of slices of bytes. What wire.Sum answers. -/
import Derived.Test.YtdafiobonhikiaaGreatDoorQA
import Derived.Test.YtdafiobonhikiaaGreatDoorQB
namespace Go.Proofs.YtdafiobonhikiaaGreatDoor
open Go.RowKit

/-- The first bytes of a slice. -/
theorem IsB.first {w : World} {b off n cap k : Nat} {ys : List Int} (h : IsB w (.slice (some ⟨b, off, none⟩) n cap) ys) (hk : k ≤ n) (hn : 0 < n) : IsB w (.slice (some ⟨b, off, none⟩) k cap) (ys.take k) := by
  obtain ⟨hb, a, cp, hv, hl, hm, hz, hc⟩ := h
  injection hv with e1 e2 e3
  subst e1 e2 e3
  obtain ⟨b', off', ha, hcell⟩ := hc hn
  injection ha with ha
  injection ha with hb1 ho1
  subst hb1 ho1
  have hlen : (ys.take k).length = k := by simp; omega
  refine ⟨fun j => ?_, some ⟨b, off, none⟩, cap, by rw [hlen], by omega, hm, (fun h => by cases h), fun _ => ⟨b, off, rfl, fun j hj => ?_⟩⟩
  · by_cases hj : j < k
    · rw [List.getElem?_take_of_lt hj]; exact hb j
    · rw [List.getElem?_eq_none (by omega)]; simp
  · rw [hcell j (by omega), List.getD_eq_getElem?_getD, List.getD_eq_getElem?_getD, List.getElem?_take_of_lt (by omega)]
/-- The same answers, with the slice's shape in sight. -/
theorem IsB.shape {w : World} {v : Value} {xs : List Int} (h : IsB w v xs) : ∃ a n c, v = .slice a n c := by
  obtain ⟨_, a, cap, rfl, _⟩ := h
  exact ⟨a, _, cap, rfl⟩
theorem IsB.lenEq {w : World} {a : Option Addr} {n c : Nat} {xs : List Int} (h : IsB w (.slice a n c) xs) : n = xs.length := by
  obtain ⟨_, a', cap, hv, _⟩ := h
  injection hv
/-- A slice of bytes of the call's own. -/
def Own8 (w : World) (B : Nat) (v : Value) (xs : List Int) : Prop := w.ownsRow B 5 1 v xs.length (xs.map (Value.int .u8)) ∧ ∀ x ∈ xs, 0 ≤ x ∧ x ≤ 255
theorem Own8.isB {w : World} {B : Nat} {v : Value} {xs : List Int} (h : Own8 w B v xs) : IsB w v xs := isB_owns h.1 h.2
theorem owns_below {w w' : World} {base : Nat} {t : TypeId} {size : Nat} {v : Value} {n : Nat} {cs : List Value} (h : w.ownsRow base t size v n cs) (hb : Below w.heap.size w w') : w'.ownsRow base t size v n cs :=
  h.kept (row := none) (show w.grownBy w' none from ⟨hb.os, hb.tape, hb.output, hb.size, fun k hk _ => hb.block k hk⟩) (by cases v.ownBlock <;> simp)
theorem owns_mono {w : World} {base base' : Nat} {t : TypeId} {size : Nat} {v : Value} {n : Nat} {cs : List Value} (h : w.ownsRow base t size v n cs) (hb : base' ≤ base) : w.ownsRow base' t size v n cs := by
  obtain ⟨h1, h2⟩ := h
  refine ⟨h1, ?_⟩
  rcases h2 with h2 | ⟨g, cap, cur, hv, hg, rest⟩
  · exact Or.inl h2
  · exact Or.inr ⟨g, cap, cur, hv, by omega, rest⟩
/-- Rows of unlike element types are unlike rows. -/
theorem owns_apart {w : World} {b1 b2 : Nat} {t1 t2 : TypeId} {s1 s2 : Nat} {v1 v2 : Value} {n1 n2 : Nat} {c1 c2 : List Value} (h1 : w.ownsRow b1 t1 s1 v1 n1 c1) (h2 : w.ownsRow b2 t2 s2 v2 n2 c2) (ht : t1 ≠ t2) :
    v1.ownBlock = none ∨ v1.ownBlock ≠ v2.ownBlock := by
  rcases h1.2 with ⟨rfl, _⟩ | ⟨g, cap, cur, rfl, _, hg, _⟩
  · exact Or.inl rfl
  · rcases h2.2 with ⟨rfl, _⟩ | ⟨g', cap', cur', rfl, _, hg', _⟩
    · exact Or.inr (by simp [Value.ownBlock])
    · refine Or.inr fun e => ht ?_
      simp only [Value.ownBlock, Option.some.injEq] at e
      subst e
      rw [hg] at hg'
      simp only [Option.some.injEq, Obj.cells.injEq] at hg'
      exact hg'.2.1
theorem Own8.below {w w' : World} {B : Nat} {v : Value} {xs : List Int} (h : Own8 w B v xs) (hb : Below w.heap.size w w') : Own8 w' B v xs := ⟨owns_below h.1 hb, h.2⟩
theorem Own8.mono {w : World} {B B' : Nat} {v : Value} {xs : List Int} (h : Own8 w B v xs) (hb : B' ≤ B) : Own8 w B' v xs := ⟨owns_mono h.1 hb, h.2⟩
/-- A new slice that is not empty lies at the head of its block. -/
theorem Own8.head {w : World} {B : Nat} {v : Value} {xs : List Int} (h : Own8 w B v xs) (hp : 0 < xs.length) : ∃ g c, v = .slice (some ⟨g, 0, none⟩) xs.length c ∧ B ≤ g ∧ ∀ j u, (xs.map (Value.int .u8))[j]? = some u → w.cell? ((⟨g, 0, none⟩ : Addr).add j) = some u := by
  rcases h.1.2 with ⟨rfl, h0⟩ | ⟨g, cap, cur, rfl, hb, _⟩
  · omega
  · exact ⟨g, cap, rfl, hb, fun j u hu => h.1.cells rfl j u hu⟩
theorem owns_shape {w : World} {B : Nat} {t : TypeId} {s : Nat} {v : Value} {n : Nat} {cs : List Value} (h : w.ownsRow B t s v n cs) (hn : 0 < n) : ∃ g cap, v = .slice (some ⟨g, 0, none⟩) n cap ∧ n ≤ cap ∧ cap ≤ 9223372036854775807 ∧ B ≤ g ∧ ∀ j, j < n * s → w.cell? ⟨g, j, none⟩ = cs[j]? := by
  have h' := h
  rcases h.2 with ⟨rfl, h0⟩ | ⟨g, cap, cur, rfl, hb, hg, hc, hm, _⟩
  · omega
  · exact ⟨g, cap, rfl, hc, by simpa [maxLen] using hm, hb, fun j hj => h'.cellAt j hj⟩
/-- Bytes in the midst of a slice. -/
theorem IsB.mid {w : World} {b off n cap l h : Nat} {ys : List Int} (hi : IsB w (.slice (some ⟨b, off, none⟩) n cap) ys) (hlh : l ≤ h) (hn : h ≤ n) (h0 : 0 < n) : IsB w (.slice (some ⟨b, off + l, none⟩) (h - l) (cap - l)) ((ys.drop l).take (h - l)) := by
  obtain ⟨hb, a, cp, hv, hl, hm, hz, hc⟩ := hi
  injection hv with e1 e2 e3
  subst e1 e2 e3
  obtain ⟨b', off', ha, hcell⟩ := hc h0
  injection ha with ha
  injection ha with hb1 ho1
  subst hb1 ho1
  have hlen : ((ys.drop l).take (h - l)).length = h - l := by simp; omega
  have hg : ∀ j, j < h - l → ((ys.drop l).take (h - l))[j]? = ys[l + j]? := fun j hj => by rw [List.getElem?_take_of_lt hj, List.getElem?_drop]
  refine ⟨fun j => ?_, some ⟨b, off + l, none⟩, cap - l, by rw [hlen], by omega, by omega, (fun h => by cases h), fun _ => ⟨b, off + l, rfl, fun j hj => ?_⟩⟩
  · by_cases hj : j < h - l
    · rw [hg j hj]; exact hb (l + j)
    · rw [List.getElem?_eq_none (by omega)]; simp
  · rw [Nat.add_assoc, hcell (l + j) (by omega), List.getD_eq_getElem?_getD, List.getD_eq_getElem?_getD, hg j (by omega)]
theorem below_drew {w w' : World} (h : Below w.drew.heap.size w.drew w') : Below w.heap.size w w' := ⟨h.os, h.tape, h.output, h.size, h.block⟩
theorem isB_nil (w : World) : IsB w (.slice none 0 0) [] := ⟨by simp, none, 0, rfl, by simp, by omega, fun _ => rfl, fun h => by simp at h⟩
theorem IsB.cut {w : World} {a : Option Addr} {n cap k : Nat} {ys : List Int} (h : IsB w (.slice a n cap) ys) (hk : k ≤ n) : IsB w (.slice a k cap) (ys.take k) := by
  have hl := h.lenEq
  obtain ⟨hb, a', cp, hv, hlc, hm, hz, hc⟩ := h
  injection hv with e1 e2 e3
  subst e1 e3
  have hlen : (ys.take k).length = k := by simp; omega
  refine ⟨fun j => ?_, a, cap, by rw [hlen], by omega, hm, hz, fun hp => ?_⟩
  · by_cases hj : j < k
    · rw [List.getElem?_take_of_lt hj]; exact hb j
    · rw [List.getElem?_eq_none (by omega)]; simp
  · obtain ⟨b, off, ha, hcell⟩ := hc (by omega)
    refine ⟨b, off, ha, fun j hj => ?_⟩
    rw [hcell j (by omega), List.getD_eq_getElem?_getD, List.getD_eq_getElem?_getD, List.getElem?_take_of_lt (by omega)]
theorem IsB.room {w : World} {a : Option Addr} {n cap : Nat} {ys : List Int} (h : IsB w (.slice a n cap) ys) : n ≤ cap := by
  have hl := h.lenEq
  obtain ⟨hb, a', cp, hv, hlc, hm, hz, hc⟩ := h
  injection hv with e1 e2 e3
  omega
theorem cells_lit (w : World) (cs : List Value) (t : TypeId) : ∀ j u, cs[j]? = some u → (w.alloc (.cells cs.toArray t)).cell? ((⟨w.heap.size, 0, none⟩ : Addr).add j) = some u := by
  intro j u hu
  rw [Addr.add_lit, cell_of_row _ w.heap.size (0 + j) cs.toArray t (0, 0) (heap_alloc_new w _)]
  simpa using hu
end Go.Proofs.YtdafiobonhikiaaGreatDoor

namespace Go.Proofs.YtdafiobonhikiaaGreatDoor
open Go.RowKit

/-- The value is a slice of slices of bytes; in this world it reads the lists. -/
structure IsBB (w : World) (v : Value) (xss : List (List Int)) : Prop where
  val : ∃ a cap, v = .slice a xss.length cap ∧ xss.length ≤ cap ∧ cap ≤ 9223372036854775807 ∧
    (0 < xss.length → ∃ b off, a = some ⟨b, off, none⟩ ∧ ∀ j, j < xss.length → ∃ u, w.cell? ⟨b, off + j, none⟩ = some u ∧ IsB w u (xss.getD j []))
theorem flatten_take {xss : List (List Int)} {k : Nat} (h : k < xss.length) : (xss.take (k + 1)).flatten = (xss.take k).flatten ++ xss.getD k [] := by
  rw [take_all h]; simp
theorem flatten_le {xss : List (List Int)} (k : Nat) : ((xss.take k).flatten).length ≤ xss.flatten.length := by
  have h := congrArg List.flatten (List.take_append_drop k xss)
  rw [List.flatten_append] at h
  have := congrArg List.length h
  rw [List.length_append] at this
  omega
theorem IsBB.below {w w' : World} {v : Value} {xss : List (List Int)} (h : IsBB w v xss) (hb : Below w.heap.size w w') : IsBB w' v xss := by
  obtain ⟨a, cap, rfl, hl, hm, hc⟩ := h
  refine ⟨a, cap, rfl, hl, hm, fun hp => ?_⟩
  obtain ⟨b, off, ha, hcell⟩ := hc hp
  refine ⟨b, off, ha, fun j hj => ?_⟩
  obtain ⟨u, hu, hi⟩ := hcell j hj
  exact ⟨u, (hb.cell (p := ⟨b, off + j, none⟩) (World.block_lt_of_cell? w _ hu)).trans hu, hi.below hb⟩
theorem isBB_nil (w : World) (a : Option Addr) (cap : Nat) (hm : cap ≤ 9223372036854775807) : IsBB w (.slice a 0 cap) [] := ⟨a, cap, rfl, by simp, hm, fun h => by simp at h⟩
end Go.Proofs.YtdafiobonhikiaaGreatDoor

namespace Go.Proofs.YtdafiobonhikiaaGreatDoor
open Go.RowKit

/-- The table lies in memory as it was laid. -/
def Tab (w : World) : Prop := ∀ i, i < 16 → w.cell? ⟨1, i, none⟩ = some (.int .u32 ((tab4.getD i 0 : Nat) : Int))

theorem Tab.below {w w' : World} (h : Tab w) (hb : Below w.heap.size w w') : Tab w' := fun i hi =>
  (hb.cell (p := ⟨1, i, none⟩) (World.block_lt_of_cell? w _ (h i hi))).trans (h i hi)

set_option maxHeartbeats 1000000 in
theorem sum_in (b off n cap : Nat) (xss : List (List Int)) (w : World) (hn : n = xss.length) (hn1 : n ≤ cap) (hc : cap ≤ 9223372036854775807) (ht : Tab w)
    (hcell : ∀ j, j < n → ∃ u, w.cell? ⟨b, off + j, none⟩ = some u ∧ IsB w u (xss.getD j [])) :
    Calls Tryz.prog 99 #[.slice (some ⟨b, off, none⟩) n cap] w fun e w' => e = .returned (.int .u32 (sumOf xss)) ∧ w' = w := by
  have HN : Hid (n = xss.length) := hn
  have HT := hide ht
  have HC := hide hcell
  clear hn ht hcell
  go_enter Tryz.func99, Tryz.ntmps99
  go_wp2
  go_loop [3, 10] (fun r i => ∃ (k R : Nat), k ≤ n ∧ i = .int .i64 k ∧ r = .int .u32 R ∧ Hid (R < 2 ^ 32) ∧ Hid (R = crcAll 4294967295 (xss.take k))) (fun _ i => n - (intOf i).toNat)
  case atStart => exact ⟨0, 4294967295, by omega, rfl, rfl, (by decide : (4294967295 : Nat) < 2 ^ 32), rfl⟩
  case round =>
    obtain ⟨k, R, hk, rfl, rfl, HR, HE⟩ := hrel
    by_cases hlt : k < n
    · obtain ⟨u, hu, hb⟩ := unhide HC k hlt
      obtain ⟨hby, a, cp, rfl, hl, hm, _, hcl⟩ := hb
      generalize hxs : xss.getD k [] = xs at *
      have HXS := hide hxs
      have HCL := hide hcl
      have HBY := hide hby
      obtain ⟨m, hm'⟩ : ∃ m, m = xs.length := ⟨_, rfl⟩
      rw [← hm'] at hu hl
      have HM := hide hm'
      clear hxs hcl hby hm'
      by_cases hm0 : 0 < m
      · obtain ⟨b2, off2, rfl, hcl⟩ := unhide HCL (by rw [← HM.out]; exact hm0)
        have HCL2 := hide hcl
        clear hcl HCL
        go_wp2
        go_loop [3, 16] (fun r i => ∃ (j S : Nat), j ≤ m ∧ i = .int .i64 j ∧ r = .int .u32 S ∧ Hid (S < 2 ^ 32) ∧ Hid (S = crcN R (xs.take j))) (fun _ i => m - (intOf i).toNat)
        case atStart => exact ⟨0, R, by omega, rfl, rfl, HR, rfl⟩
        case round =>
          obtain ⟨j, S, hj, rfl, rfl, HS, HES⟩ := hrel
          by_cases hjt : j < m
          · have hbj := unhide HBY j
            obtain ⟨c, hcv⟩ : ∃ c : Nat, (c : Int) = xs[j]?.getD 0 := ⟨(xs[j]?.getD 0).toNat, by omega⟩
            have hce : w.cell? ⟨b2, off2 + j, none⟩ = some (.int .u8 (c : Int)) := by
              rw [unhide HCL2 j (by rw [← HM.out]; exact hjt), hcv, List.getD_eq_getElem?_getD]
            have hc1 : c ≤ 255 := by omega
            have H1 := hide (Nat.xor_lt_two_pow HS.out (show c < 2 ^ 32 by omega))
            have hx1 := xor_reg HS.out (show c < 2 ^ 32 by omega)
            obtain ⟨r1, hr1⟩ : ∃ r1, r1 = S ^^^ c := ⟨_, rfl⟩
            rw [← hr1] at hx1 H1
            have ht1 : w.cell? ⟨1, r1 % 16, none⟩ = some (.int .u32 ((tab4.getD (r1 % 16) 0 : Nat) : Int)) := unhide HT _ (Nat.mod_lt _ (by decide))
            have hk1 := mask15 H1.out
            have hq1 := xor_quarter H1.out (tab4_lt (r1 % 16) (Nat.mod_lt _ (by decide)))
            obtain ⟨t1, ht1e⟩ : ∃ t1, t1 = tab4.getD (r1 % 16) 0 := ⟨_, rfl⟩
            rw [← ht1e] at ht1 hq1
            have H2 : Hid (s4 r1 < 2 ^ 32) := s4_lt H1.out
            obtain ⟨r2, hr2⟩ : ∃ r2, r2 = r1 / 16 ^^^ t1 := ⟨_, rfl⟩
            rw [← hr2] at hq1
            have E2 : Hid (s4 r1 = r2) := by show _ = _; rw [hr2, ht1e]; rfl
            rw [E2.out] at H2
            have ht2 : w.cell? ⟨1, r2 % 16, none⟩ = some (.int .u32 ((tab4.getD (r2 % 16) 0 : Nat) : Int)) := unhide HT _ (Nat.mod_lt _ (by decide))
            have hk2 := mask15 H2.out
            have hq2 := xor_quarter H2.out (tab4_lt (r2 % 16) (Nat.mod_lt _ (by decide)))
            obtain ⟨t2, ht2e⟩ : ∃ t2, t2 = tab4.getD (r2 % 16) 0 := ⟨_, rfl⟩
            rw [← ht2e] at ht2 hq2
            have H3 : Hid (s4 r2 < 2 ^ 32) := s4_lt H2.out
            have E3 : Hid (s4 r2 = r2 / 16 ^^^ t2) := by show _ = _; rw [ht2e]; rfl
            have HF : Hid (s4 r2 = crcN R (xs.take (j + 1))) := by
              show _ = _
              rw [take_snoc' (by rw [← HM.out]; exact hjt), crcN_snoc, ← HES.out, sB, ← E2.out, hr1, ← hcv, Int.toNat_natCast]
            rw [← E3.out] at hq2
            clear hbj hcv hr1 ht1e hr2 ht2e
            go_wp2
            go_round
            case rel => exact ⟨j + 1, s4 r2, by omega, by go_num, rfl, H3, HF⟩
            case measure => simp [intOf]; omega
          · go_wp2
            go_round
            case rel =>
              obtain rfl : j = m := by omega
              exact ⟨k + 1, S, by omega, by go_num, rfl, HS, by show _ = _; rw [take_all (by rw [← HN.out]; exact hlt), crcAll_snoc, ← HE.out, HXS.out, HES.out, List.take_of_length_le (by rw [← HM.out]; exact Nat.le_refl _)]⟩
            case measure => simp [intOf]; omega
      · obtain rfl : m = 0 := by omega
        clear HCL
        go_wp2
        refine wp_loop_rounds 1 ?_
        rw [rounds_succ]
        go_wp2
        go_round
        case rel =>
          have h0 : xs = [] := List.eq_nil_of_length_eq_zero HM.out.symm
          exact ⟨k + 1, R, by omega, by go_num, rfl, HR, by show _ = _; rw [take_all (by rw [← HN.out]; exact hlt), crcAll_snoc, ← HE.out, HXS.out, h0]; rfl⟩
        case measure => simp [intOf]; omega
    · obtain rfl : k = n := by omega
      have hmx := xor_max HR.out
      have HF : Hid (sumOf xss = ((4294967295 ^^^ R : Nat) : Int)) := by
        show _ = _
        rw [sumOf, HE.out, List.take_of_length_le (by rw [← HN.out]; exact Nat.le_refl _)]
      go_wp2
      go_ret
      rw [HF.out]
      exact ⟨rfl, rfl⟩

set_option maxHeartbeats 400000 in
theorem sum_none (a : Option Addr) (cap : Nat) (w : World) :
    Calls Tryz.prog 99 #[.slice a 0 cap] w fun e w' => e = .returned (.int .u32 (sumOf [])) ∧ w' = w := by
  have hmx := xor_max (r := 4294967295) (by decide)
  have hmx' : bits .xor .u32 IntKind.u32.max 4294967295 = 0 := by decide
  go_enter Tryz.func99, Tryz.ntmps99
  go_wp2
  refine wp_loop_rounds 1 ?_
  rw [rounds_succ]
  go_wp2
  go_ret
  exact ⟨by first | rfl | decide, rfl⟩

/-- wire.Sum, of all parts. -/
theorem sum_calls {w : World} {v : Value} {xss : List (List Int)} (h : IsBB w v xss) (ht : Tab w) :
    Calls Tryz.prog 99 #[v] w fun e w' => e = .returned (.int .u32 (sumOf xss)) ∧ w' = w := by
  obtain ⟨a, cap, rfl, hl, hm, hc⟩ := h
  by_cases h0 : 0 < xss.length
  · obtain ⟨b, off, rfl, hcell⟩ := hc h0
    exact sum_in b off _ cap xss w rfl hl hm ht hcell
  · obtain rfl : xss = [] := List.eq_nil_of_length_eq_zero (by omega)
    exact sum_none a cap w
end Go.Proofs.YtdafiobonhikiaaGreatDoor
