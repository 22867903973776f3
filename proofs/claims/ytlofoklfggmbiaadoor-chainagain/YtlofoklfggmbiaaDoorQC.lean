/- Slices of bytes of the call's own: what holds of them in any seat. Slices of slices of bytes. What wire.Sum answers. A block of memory that holds just these cells. Bytes and slices appended, wherever the source lies: one law for slices of bytes. append onto a row of the call's own: where the new slice lies, and which other slices of the same row still read what they read. Many rows of the call's own beside one another: what changes some of them alone. -/
import Derived.Test.YtlofoklfggmbiaaDoorQA
import Derived.Deep.WholeRow
import Derived.Laws.OwnMore
import Derived.Laws.CopyOwn
import Derived.Laws.AppendOwnNone
import Derived.Maps.AppendAt
import Derived.WalkKit
import Derived.Below
namespace Go.Proofs.YtlofoklfggmbiaaDoor
open Go.RowKit

/-- The first bytes of a slice. -/
theorem IsB.first {w : World} {b off n cap k : Nat} {ys : List Int} (h : IsB w (.slice (some ⟨b, off, none⟩) n cap) ys) (hk : k ≤ n) (hn : 0 < n) : IsB w (.slice (some ⟨b, off, none⟩) k cap) (ys.take k) := by
 obtain ⟨hb, a, cp, hv, hl, hm, hz, hc⟩ := h
 injection hv with e1 e2 e3
 subst e1 e2 e3
 obtain ⟨b', off', ha, hcell⟩ := hc hn
 injection ha with ha
 injection ha with hb1 ho1
 subst hb1 ho1
 have hlen : (ys.take k).length = k := by simp; omega
 refine ⟨fun j => ?_, some ⟨b, off, none⟩, cap, by rw [hlen], by omega, hm, (fun h => by cases h), fun _ => ⟨b, off, rfl, fun j hj => ?_⟩⟩
 · by_cases hj : j < k
   · rw [List.getElem?_take_of_lt hj]; exact hb j
   · rw [List.getElem?_eq_none (by omega)]; simp
 · rw [hcell j (by omega), List.getD_eq_getElem?_getD, List.getD_eq_getElem?_getD, List.getElem?_take_of_lt (by omega)]
/-- The same answers, with the slice's shape in sight. -/
theorem IsB.shape {w : World} {v : Value} {xs : List Int} (h : IsB w v xs) : ∃ a n c, v = .slice a n c := by
 obtain ⟨_, a, cap, rfl, _⟩ := h
 exact ⟨a, _, cap, rfl⟩
theorem IsB.lenEq {w : World} {a : Option Addr} {n c : Nat} {xs : List Int} (h : IsB w (.slice a n c) xs) : n = xs.length := by
 obtain ⟨_, a', cap, hv, _⟩ := h
 injection hv
/-- A slice of bytes of the call's own. -/
def Own8 (w : World) (B : Nat) (v : Value) (xs : List Int) : Prop := w.ownsRow B 5 1 v xs.length (xs.map (Value.int .u8)) ∧ ∀ x ∈ xs, 0 ≤ x ∧ x ≤ 255
theorem Own8.isB {w : World} {B : Nat} {v : Value} {xs : List Int} (h : Own8 w B v xs) : IsB w v xs := isB_owns h.1 h.2
theorem owns_below {w w' : World} {base : Nat} {t : TypeId} {size : Nat} {v : Value} {n : Nat} {cs : List Value} (h : w.ownsRow base t size v n cs) (hb : Below w.heap.size w w') : w'.ownsRow base t size v n cs :=
 h.kept (row := none) (show w.grownBy w' none from ⟨hb.os, hb.tape, hb.output, hb.size, fun k hk _ => hb.block k hk⟩) (by cases v.ownBlock <;> simp)
theorem owns_mono {w : World} {base base' : Nat} {t : TypeId} {size : Nat} {v : Value} {n : Nat} {cs : List Value} (h : w.ownsRow base t size v n cs) (hb : base' ≤ base) : w.ownsRow base' t size v n cs := by
 obtain ⟨h1, h2⟩ := h
 refine ⟨h1, ?_⟩
 rcases h2 with h2 | ⟨g, cap, cur, hv, hg, rest⟩
 · exact Or.inl h2
 · exact Or.inr ⟨g, cap, cur, hv, by omega, rest⟩
theorem Own8.below {w w' : World} {B : Nat} {v : Value} {xs : List Int} (h : Own8 w B v xs) (hb : Below w.heap.size w w') : Own8 w' B v xs := ⟨owns_below h.1 hb, h.2⟩
theorem Own8.mono {w : World} {B B' : Nat} {v : Value} {xs : List Int} (h : Own8 w B v xs) (hb : B' ≤ B) : Own8 w B' v xs := ⟨owns_mono h.1 hb, h.2⟩
/-- A new slice that is not empty lies at the head of its block. -/
theorem Own8.head {w : World} {B : Nat} {v : Value} {xs : List Int} (h : Own8 w B v xs) (hp : 0 < xs.length) : ∃ g c, v = .slice (some ⟨g, 0, none⟩) xs.length c ∧ B ≤ g ∧ ∀ j u, (xs.map (Value.int .u8))[j]? = some u → w.cell? ((⟨g, 0, none⟩ : Addr).add j) = some u := by
 rcases h.1.2 with ⟨rfl, h0⟩ | ⟨g, cap, cur, rfl, hb, _⟩
 · omega
 · exact ⟨g, cap, rfl, hb, fun j u hu => h.1.cells rfl j u hu⟩
theorem owns_shape {w : World} {B : Nat} {t : TypeId} {s : Nat} {v : Value} {n : Nat} {cs : List Value} (h : w.ownsRow B t s v n cs) (hn : 0 < n) : ∃ g cap, v = .slice (some ⟨g, 0, none⟩) n cap ∧ n ≤ cap ∧ cap ≤ 9223372036854775807 ∧ B ≤ g ∧ ∀ j, j < n * s → w.cell? ⟨g, j, none⟩ = cs[j]? := by
 have h' := h
 rcases h.2 with ⟨rfl, h0⟩ | ⟨g, cap, cur, rfl, hb, hg, hc, hm, _⟩
 · omega
 · exact ⟨g, cap, rfl, hc, by simpa [maxLen] using hm, hb, fun j hj => h'.cellAt j hj⟩
theorem below_drew {w w' : World} (h : Below w.drew.heap.size w.drew w') : Below w.heap.size w w' := ⟨h.os, h.tape, h.output, h.size, h.block⟩
theorem IsB.room {w : World} {a : Option Addr} {n cap : Nat} {ys : List Int} (h : IsB w (.slice a n cap) ys) : n ≤ cap := by
 have hl := h.lenEq
 obtain ⟨hb, a', cp, hv, hlc, hm, hz, hc⟩ := h
 injection hv with e1 e2 e3
 omega
theorem cells_lit (w : World) (cs : List Value) (t : TypeId) : ∀ j u, cs[j]? = some u → (w.alloc (.cells cs.toArray t)).cell? ((⟨w.heap.size, 0, none⟩ : Addr).add j) = some u := by
 intro j u hu
 rw [Addr.add_lit, cell_of_row _ w.heap.size (0 + j) cs.toArray t (0, 0) (heap_alloc_new w _)]
 simpa using hu
end Go.Proofs.YtlofoklfggmbiaaDoor

namespace Go.Proofs.YtlofoklfggmbiaaDoor
open Go.RowKit

/-- The value is a slice of slices of bytes; in this world it reads the lists. -/
structure IsBB (w : World) (v : Value) (xss : List (List Int)) : Prop where
 val : ∃ a cap, v = .slice a xss.length cap ∧ xss.length ≤ cap ∧ cap ≤ 9223372036854775807 ∧
  (0 < xss.length → ∃ b off, a = some ⟨b, off, none⟩ ∧ ∀ j, j < xss.length → ∃ u, w.cell? ⟨b, off + j, none⟩ = some u ∧ IsB w u (xss.getD j []))
theorem flatten_take {xss : List (List Int)} {k : Nat} (h : k < xss.length) : (xss.take (k + 1)).flatten = (xss.take k).flatten ++ xss.getD k [] := by
 rw [take_all h]; simp
theorem flatten_le {xss : List (List Int)} (k : Nat) : ((xss.take k).flatten).length ≤ xss.flatten.length := by
 have h := congrArg List.flatten (List.take_append_drop k xss)
 rw [List.flatten_append] at h
 have := congrArg List.length h
 rw [List.length_append] at this
 omega
theorem IsBB.below {w w' : World} {v : Value} {xss : List (List Int)} (h : IsBB w v xss) (hb : Below w.heap.size w w') : IsBB w' v xss := by
 obtain ⟨a, cap, rfl, hl, hm, hc⟩ := h
 refine ⟨a, cap, rfl, hl, hm, fun hp => ?_⟩
 obtain ⟨b, off, ha, hcell⟩ := hc hp
 refine ⟨b, off, ha, fun j hj => ?_⟩
 obtain ⟨u, hu, hi⟩ := hcell j hj
 exact ⟨u, (hb.cell (p := ⟨b, off + j, none⟩) (World.block_lt_of_cell? w _ hu)).trans hu, hi.below hb⟩
theorem isBB_nil (w : World) (a : Option Addr) (cap : Nat) (hm : cap ≤ 9223372036854775807) : IsBB w (.slice a 0 cap) [] := ⟨a, cap, rfl, by simp, hm, fun h => by simp at h⟩
end Go.Proofs.YtlofoklfggmbiaaDoor

namespace Go.Proofs.YtlofoklfggmbiaaDoor
open Go.RowKit

/-- The table lies in memory as it was laid. -/
def Tab (w : World) : Prop := ∀ i, i < 16 → w.cell? ⟨2, i, none⟩ = some (.int .u32 ((tab4.getD i 0 : Nat) : Int))

theorem Tab.below {w w' : World} (h : Tab w) (hb : Below w.heap.size w w') : Tab w' := fun i hi =>
 (hb.cell (p := ⟨2, i, none⟩) (World.block_lt_of_cell? w _ (h i hi))).trans (h i hi)

set_option maxHeartbeats 1000000 in
theorem sum_in (b off n cap : Nat) (xss : List (List Int)) (w : World) (hn : n = xss.length) (hn1 : n ≤ cap) (hc : cap ≤ 9223372036854775807) (ht : Tab w)
 (hcell : ∀ j, j < n → ∃ u, w.cell? ⟨b, off + j, none⟩ = some u ∧ IsB w u (xss.getD j [])) :
 Calls Tryd.prog 90 #[.slice (some ⟨b, off, none⟩) n cap] w fun e w' => e = .returned (.int .u32 (sumOf xss)) ∧ w' = w := by
 have HN : Hid (n = xss.length) := hn
 have HT := hide ht
 have HC := hide hcell
 clear hn ht hcell
 go_enter Tryd.func90, Tryd.ntmps90
 go_wp2
 go_loop [3, 10] (fun r i => ∃ (k R : Nat), k ≤ n ∧ i = .int .i64 k ∧ r = .int .u32 R ∧ Hid (R < 2 ^ 32) ∧ Hid (R = crcAll 4294967295 (xss.take k))) (fun _ i => n - (intOf i).toNat)
 case atStart => exact ⟨0, 4294967295, by omega, rfl, rfl, (by decide : (4294967295 : Nat) < 2 ^ 32), rfl⟩
 case round =>
  obtain ⟨k, R, hk, rfl, rfl, HR, HE⟩ := hrel
  by_cases hlt : k < n
  · obtain ⟨u, hu, hb⟩ := unhide HC k hlt
    obtain ⟨hby, a, cp, rfl, hl, hm, _, hcl⟩ := hb
    generalize hxs : xss.getD k [] = xs at *
    have HXS := hide hxs
    have HCL := hide hcl
    have HBY := hide hby
    obtain ⟨m, hm'⟩ : ∃ m, m = xs.length := ⟨_, rfl⟩
    rw [← hm'] at hu hl
    have HM := hide hm'
    clear hxs hcl hby hm'
    by_cases hm0 : 0 < m
    · obtain ⟨b2, off2, rfl, hcl⟩ := unhide HCL (by rw [← HM.out]; exact hm0)
      have HCL2 := hide hcl
      clear hcl HCL
      go_wp2
      go_loop [3, 16] (fun r i => ∃ (j S : Nat), j ≤ m ∧ i = .int .i64 j ∧ r = .int .u32 S ∧ Hid (S < 2 ^ 32) ∧ Hid (S = crcN R (xs.take j))) (fun _ i => m - (intOf i).toNat)
      case atStart => exact ⟨0, R, by omega, rfl, rfl, HR, rfl⟩
      case round =>
       obtain ⟨j, S, hj, rfl, rfl, HS, HES⟩ := hrel
       by_cases hjt : j < m
       · have hbj := unhide HBY j
         obtain ⟨c, hcv⟩ : ∃ c : Nat, (c : Int) = xs[j]?.getD 0 := ⟨(xs[j]?.getD 0).toNat, by omega⟩
         have hce : w.cell? ⟨b2, off2 + j, none⟩ = some (.int .u8 (c : Int)) := by
          rw [unhide HCL2 j (by rw [← HM.out]; exact hjt), hcv, List.getD_eq_getElem?_getD]
         have hc1 : c ≤ 255 := by omega
         have H1 := hide (Nat.xor_lt_two_pow HS.out (show c < 2 ^ 32 by omega))
         have hx1 := xor_reg HS.out (show c < 2 ^ 32 by omega)
         obtain ⟨r1, hr1⟩ : ∃ r1, r1 = S ^^^ c := ⟨_, rfl⟩
         rw [← hr1] at hx1 H1
         have ht1 : w.cell? ⟨2, r1 % 16, none⟩ = some (.int .u32 ((tab4.getD (r1 % 16) 0 : Nat) : Int)) := unhide HT _ (Nat.mod_lt _ (by decide))
         have hk1 := mask15 H1.out
         have hq1 := xor_quarter H1.out (tab4_lt (r1 % 16) (Nat.mod_lt _ (by decide)))
         obtain ⟨t1, ht1e⟩ : ∃ t1, t1 = tab4.getD (r1 % 16) 0 := ⟨_, rfl⟩
         rw [← ht1e] at ht1 hq1
         have H2 : Hid (s4 r1 < 2 ^ 32) := s4_lt H1.out
         obtain ⟨r2, hr2⟩ : ∃ r2, r2 = r1 / 16 ^^^ t1 := ⟨_, rfl⟩
         rw [← hr2] at hq1
         have E2 : Hid (s4 r1 = r2) := by show _ = _; rw [hr2, ht1e]; rfl
         rw [E2.out] at H2
         have ht2 : w.cell? ⟨2, r2 % 16, none⟩ = some (.int .u32 ((tab4.getD (r2 % 16) 0 : Nat) : Int)) := unhide HT _ (Nat.mod_lt _ (by decide))
         have hk2 := mask15 H2.out
         have hq2 := xor_quarter H2.out (tab4_lt (r2 % 16) (Nat.mod_lt _ (by decide)))
         obtain ⟨t2, ht2e⟩ : ∃ t2, t2 = tab4.getD (r2 % 16) 0 := ⟨_, rfl⟩
         rw [← ht2e] at ht2 hq2
         have H3 : Hid (s4 r2 < 2 ^ 32) := s4_lt H2.out
         have E3 : Hid (s4 r2 = r2 / 16 ^^^ t2) := by show _ = _; rw [ht2e]; rfl
         have HF : Hid (s4 r2 = crcN R (xs.take (j + 1))) := by
          show _ = _
          rw [take_snoc' (by rw [← HM.out]; exact hjt), crcN_snoc, ← HES.out, sB, ← E2.out, hr1, ← hcv, Int.toNat_natCast]
         rw [← E3.out] at hq2
         clear hbj hcv hr1 ht1e hr2 ht2e
         go_wp2
         go_round
         case rel => exact ⟨j + 1, s4 r2, by omega, by go_num, rfl, H3, HF⟩
         case measure => simp [intOf]; omega
       · go_wp2
         go_round
         case rel =>
          obtain rfl : j = m := by omega
          exact ⟨k + 1, S, by omega, by go_num, rfl, HS, by show _ = _; rw [take_all (by rw [← HN.out]; exact hlt), crcAll_snoc, ← HE.out, HXS.out, HES.out, List.take_of_length_le (by rw [← HM.out]; exact Nat.le_refl _)]⟩
         case measure => simp [intOf]; omega
    · obtain rfl : m = 0 := by omega
      clear HCL
      go_wp2
      refine wp_loop_rounds 1 ?_
      rw [rounds_succ]
      go_wp2
      go_round
      case rel =>
       have h0 : xs = [] := List.eq_nil_of_length_eq_zero HM.out.symm
       exact ⟨k + 1, R, by omega, by go_num, rfl, HR, by show _ = _; rw [take_all (by rw [← HN.out]; exact hlt), crcAll_snoc, ← HE.out, HXS.out, h0]; rfl⟩
      case measure => simp [intOf]; omega
  · obtain rfl : k = n := by omega
    have hmx := xor_max HR.out
    have HF : Hid (sumOf xss = ((4294967295 ^^^ R : Nat) : Int)) := by
     show _ = _
     rw [sumOf, HE.out, List.take_of_length_le (by rw [← HN.out]; exact Nat.le_refl _)]
    go_wp2
    go_ret
    rw [HF.out]
    exact ⟨rfl, rfl⟩

set_option maxHeartbeats 400000 in
theorem sum_none (a : Option Addr) (cap : Nat) (w : World) :
 Calls Tryd.prog 90 #[.slice a 0 cap] w fun e w' => e = .returned (.int .u32 (sumOf [])) ∧ w' = w := by
 have hmx := xor_max (r := 4294967295) (by decide)
 have hmx' : bits .xor .u32 IntKind.u32.max 4294967295 = 0 := by decide
 go_enter Tryd.func90, Tryd.ntmps90
 go_wp2
 refine wp_loop_rounds 1 ?_
 rw [rounds_succ]
 go_wp2
 go_ret
 exact ⟨by first | rfl | decide, rfl⟩

/-- wire.Sum, of all parts. -/
theorem sum_calls {w : World} {v : Value} {xss : List (List Int)} (h : IsBB w v xss) (ht : Tab w) :
 Calls Tryd.prog 90 #[v] w fun e w' => e = .returned (.int .u32 (sumOf xss)) ∧ w' = w := by
 obtain ⟨a, cap, rfl, hl, hm, hc⟩ := h
 by_cases h0 : 0 < xss.length
 · obtain ⟨b, off, rfl, hcell⟩ := hc h0
   exact sum_in b off _ cap xss w rfl hl hm ht hcell
 · obtain rfl : xss = [] := List.eq_nil_of_length_eq_zero (by omega)
   exact sum_none a cap w
end Go.Proofs.YtlofoklfggmbiaaDoor

namespace Go.Proofs.YtlofoklfggmbiaaDoor
open Go.RowKit

theorem below_then {w a b : World} (h1 : Below w.heap.size w a) (h2 : Below a.heap.size a b) : Below w.heap.size w b := h1.trans (h2.mono h1.size)
def Arr (w : World) (g : Nat) (t : TypeId) (cs : List Value) : Prop := w.heap[g]? = some (.cells cs.toArray t)
theorem Arr.new (w : World) (cs : List Value) (t : TypeId) : Arr (w.alloc (.cells cs.toArray t)) w.heap.size t cs := heap_alloc_last w _
theorem Arr.lt {w : World} {g : Nat} {t : TypeId} {cs : List Value} (h : Arr w g t cs) : g < w.heap.size := (Array.getElem?_eq_some_iff.1 h).1
theorem Arr.cell {w : World} {g : Nat} {t : TypeId} {cs : List Value} (h : Arr w g t cs) (j : Nat) : w.cell? ⟨g, j, none⟩ = cs[j]? := by
 rw [cell_of_row w g j cs.toArray t (0, 0) h]
 simp
theorem Arr.frozen {w : World} {g : Nat} {t : TypeId} {cs : List Value} (h : Arr w g t cs) (j : Nat) : w.frozen? ⟨g, j, none⟩ = false := by
 unfold World.frozen?
 rw [h]
 simp
theorem Arr.keep {w w' : World} {g : Nat} {t : TypeId} {cs : List Value} (h : Arr w g t cs) (e : w'.heap[g]? = w.heap[g]?) : Arr w' g t cs := e.trans h
theorem Arr.below {w w' : World} {g : Nat} {t : TypeId} {cs : List Value} (h : Arr w g t cs) (hb : Below w.heap.size w w') : Arr w' g t cs := h.keep (hb.block g h.lt)
theorem Arr.alloc {w : World} {g : Nat} {t : TypeId} {cs : List Value} (h : Arr w g t cs) (o : Obj) : Arr (w.alloc o) g t cs := h.below ((Below.refl _ _).alloc (Nat.le_refl _) _)
theorem Arr.drew {w : World} {g : Nat} {t : TypeId} {cs : List Value} (h : Arr w g t cs) : Arr w.drew g t cs := h
theorem Arr.set {w : World} {g : Nat} {t : TypeId} {cs : List Value} (h : Arr w g t cs) (j : Nat) (u : Value) : Arr (w.setCell ⟨g, j, none⟩ u) g t (cs.set j u) := by
 have := heap_setCell_same w g j cs.toArray t u h
 unfold Arr
 rw [this]
 simp
theorem Arr.other {w : World} {g : Nat} {t : TypeId} {cs : List Value} (h : Arr w g t cs) (p : Addr) (u : Value) (hne : g ≠ p.block) : Arr (w.setCell p u) g t cs := h.keep (Below.heap_setCell w p u g hne)
theorem Arr.load {w : World} {g : Nat} {t e : TypeId} {n : Nat} {cs : List Value} (h : Arr w g t cs) (hu : Tryd.prog.underlying t = some (.array n e)) (hi : (Tryd.prog.info? t).map (·.size) = some cs.length) :
 (loadVar t ⟨g, 0, none⟩).run Tryd.prog w = .ok (.agg cs.toArray) w :=
 run_loadVar_row _ _ t t cs.toArray (0, 0) _ h hu rfl (by simpa using hi)
theorem Arr.loadAt {w : World} {g : Nat} {t e : TypeId} {n : Nat} {cs : List Value} (h : Arr w g t cs) (hu : Tryd.prog.underlying t = some (.array n e)) (hi : (Tryd.prog.info? t).map (·.size) = some cs.length) :
 (Instr.loadAt t (.pointer (some ⟨g, 0, none⟩))).run Tryd.prog w = .ok (.agg cs.toArray) w := by
 simp only [Instr.loadAt, Instr.sureAddr, Sem.run_bind, Sem.run_pure, Result.andThen]
 exact h.load hu hi
theorem Arr.storeVar {w : World} {g : Nat} {t : TypeId} {cs cs' : List Value} (h : Arr w g t cs) (hi : (Tryd.prog.info? t).map (·.size) = some cs'.length) (hl : cs.length = cs'.length) (h1 : ∀ u ∈ cs', u.oneCell' = true) :
 (Go.storeVar t ⟨g, 0, none⟩ (.agg cs'.toArray)).run Tryd.prog w = .ok () (w.setRow g cs'.toArray) :=
 run_storeVar_row _ _ t t cs.toArray cs'.toArray h (by simpa using hi) (by simpa using hl) (by simpa using h1)
theorem Arr.storeAt {w : World} {g : Nat} {t : TypeId} {cs cs' : List Value} (h : Arr w g t cs) (hi : (Tryd.prog.info? t).map (·.size) = some cs'.length) (hl : cs.length = cs'.length) (h1 : ∀ u ∈ cs', u.oneCell' = true) :
 (Instr.storeAt t (.pointer (some ⟨g, 0, none⟩)) (.agg cs'.toArray)).run Tryd.prog w = .ok () (w.setRow g cs'.toArray) := by
 simp only [Instr.storeAt, Instr.sureAddr, Sem.run_bind, Sem.run_pure, Result.andThen]
 exact h.storeVar hi hl h1
section
variable {ops : Array Oper} {rest : List Oper} {o : Oper} {a : Act} {Q : Exit → Act → World → Prop} {w : World}
/-- A whole array is read. -/
theorem wpList_loadArr (hgd : o.guard = none) (x : Operand) (t : TypeId) (ho : o.op = .load t x) {g n : Nat} {e : TypeId} {cs : List Value} (hx : a.eval x = .pointer (some ⟨g, 0, none⟩)) (h : Arr w g t cs) (hu : Tryd.prog.underlying t = some (.array n e)) (hi : (Tryd.prog.info? t).map (·.size) = some cs.length)
 (hk : wpList Tryd.prog ops Q rest (a.put o.dst (.agg cs.toArray)) w) : wpList Tryd.prog ops Q (o :: rest) a w := by
 refine wpList_plain hgd fun K hK => ?_
 have h1 := h.loadAt hu hi
 unfold Oper.wp execOp
 simp only [ho, hx, Sem.run_bind, h1, Result.andThen_ok, Sem.run_pure]
 exact hK _ _ hk
/-- A whole array is written. -/
theorem wpList_storeArr (hgd : o.guard = none) (x y : Operand) (t : TypeId) (ho : o.op = .store t x y) {g : Nat} {cs cs' : List Value} (hx : a.eval x = .pointer (some ⟨g, 0, none⟩)) (hy : a.eval y = .agg cs'.toArray) (h : Arr w g t cs) (hi : (Tryd.prog.info? t).map (·.size) = some cs'.length)
 (hl : cs.length = cs'.length) (h1 : ∀ u ∈ cs', u.oneCell' = true) (hk : wpList Tryd.prog ops Q rest (a.put o.dst undef) (w.setRow g cs'.toArray)) : wpList Tryd.prog ops Q (o :: rest) a w := by
 refine wpList_plain hgd fun K hK => ?_
 have h2 := h.storeAt hi hl h1
 unfold Oper.wp execOp
 simp only [ho, hx, hy, Sem.run_bind, h2, Result.andThen_ok, Sem.run_pure]
 exact hK _ _ hk
end
/-- What a world is behind a block was written. -/
structure Wrote (w w' : World) (g : Nat) : Prop where
 other : ∀ k, k ≠ g → w'.heap[k]? = w.heap[k]?
 size : w'.heap.size = w.heap.size
 below : ∀ (B : Nat) (a : World), Below B a w → B ≤ g → Below B a w'
theorem Arr.wrote {w w' : World} {g g' : Nat} {t : TypeId} {cs : List Value} (h : Arr w g t cs) (hw : Wrote w w' g') (hne : g ≠ g') : Arr w' g t cs := h.keep (hw.other g hne)
theorem wpList_storeArr2 {ops : Array Oper} {rest : List Oper} {o : Oper} {a : Act} {Q : Exit → Act → World → Prop} {w : World} (hgd : o.guard = none) (x y : Operand) (t : TypeId) (ho : o.op = .store t x y) {g : Nat} {cs cs' : List Value} (hx : a.eval x = .pointer (some ⟨g, 0, none⟩)) (hy : a.eval y = .agg cs'.toArray) (h : Arr w g t cs)
 (hi : (Tryd.prog.info? t).map (·.size) = some cs'.length) (hl : cs.length = cs'.length) (h1 : ∀ u ∈ cs', u.oneCell' = true) (hk : ∀ w', Arr w' g t cs' → Wrote w w' g → wpList Tryd.prog ops Q rest (a.put o.dst undef) w') : wpList Tryd.prog ops Q (o :: rest) a w :=
 wpList_storeArr hgd x y t ho hx hy h hi hl h1 (hk _ (setRow_heap w g _ _ t _ h) ⟨fun k hk => Go.setRow_other w g k _ hk, by simp, fun _ _ hb hB => below_setRow hb hB _⟩)

/-- A result that lies in a block. -/
theorem results_arr {fn : Func} {p : Tmp} {t e : TypeId} {n g : Nat} {tmps : Array Value} {w : World} {cs : List Value} (h : fn.results = #[.cell p t]) (ha : tmps.getD p undef = .pointer (some ⟨g, 0, none⟩)) (hA : Arr w g t cs) (hu : Tryd.prog.underlying t = some (.array n e)) (hi : (Tryd.prog.info? t).map (·.size) = some cs.length) :
 (results fn tmps).run Tryd.prog w = .ok (.agg cs.toArray) w := by
 have h1 := hA.load hu hi
 have ha' : tmps[p]?.getD undef = .pointer (some ⟨g, 0, none⟩) := by simpa using ha
 simp [results, h, asAddr, ha', h1]
theorem Arr.setRow {w : World} {g : Nat} {t : TypeId} {cs : List Value} (h : Arr w g t cs) (cs' : List Value) : Arr (w.setRow g cs'.toArray) g t cs' := setRow_heap w g _ _ t _ h
theorem Arr.setRow_other {w : World} {g g' : Nat} {t : TypeId} {cs : List Value} (h : Arr w g t cs) (c : Array Value) (hne : g ≠ g') : Arr (w.setRow g' c) g t cs := h.keep (Go.setRow_other w g' g c hne)
end Go.Proofs.YtlofoklfggmbiaaDoor

namespace Go.Proofs.YtlofoklfggmbiaaDoor
open Go.RowKit

section
variable {ops : Array Oper} {rest : List Oper} {o : Oper} {a : Act} {Q : Exit → Act → World → Prop} {w : World} {K : Act → World → Prop}
/-- The operation comes. -/
theorem wpList_on (hw : Region.wanted o (yielded ops a.tmps) = true) (h : ∀ K : Act → World → Prop, (∀ a w, wpList Tryd.prog ops Q rest a w → K a w) → o.wp Tryd.prog a w K Q) : wpList Tryd.prog ops Q (o :: rest) a w :=
 wpList_step fun K hK => by rw [if_pos hw]; exact h K hK
theorem Own8.shape {B : Nat} {v : Value} {xs : List Int} (h : Own8 w B v xs) : ∃ a n c, v = .slice a n c := h.isB.shape
theorem Own8.nil (w : World) (B : Nat) : Own8 w B (.slice none 0 0) [] := ⟨World.ownsRow_nil _ _ _ _, by simp⟩
theorem Own8.kept {w' : World} {B : Nat} {v : Value} {xs : List Int} {row : Option Nat} (h : Own8 w B v xs) (hg : w.grownBy w' row) (hne : v.ownBlock = none ∨ v.ownBlock ≠ row) : Own8 w' B v xs := ⟨h.1.kept hg hne, h.2⟩
/-- Bytes appended to a row of bytes of the call's own. -/
theorem wp_appB (x y : Operand) (ho : o.op = .call { callee := .builtin .append, args := #[x, y], argTypes := #[26, 26] }) {B : Nat} {v u : Value} {xs ys : List Int} (hx : a.eval x = v) (hown : Own8 w B v xs) (hy : a.eval y = u) (hys : IsB w u ys)
 (hl : xs.length + ys.length ≤ 140737488355328) (hB : B ≤ w.heap.size) (hk : ∀ v' w', Own8 w' B v' (xs ++ ys) → w.grownBy w' v.ownBlock → K (a.put o.dst v') w') : o.wp Tryd.prog a w K Q := by
 obtain ⟨i0, hi, hz0, hz1, hz2⟩ := info_parts info8
 have hys' := hys
 obtain ⟨_, ad, cap, rfl, _, _, hz, hc⟩ := hys
 cases ad with
 | none =>
   have h0 : ys = [] := by
    by_cases hp : 0 < ys.length
    · obtain ⟨b2, off2, ha, _⟩ := hc hp
      cases ha
    · exact List.eq_nil_of_length_eq_zero (by omega)
   subst h0
   obtain rfl := hz rfl
   have hrun := run_append_owned_none (P := Tryd.prog) (w := w) B 26 o.type 5 i0 1 Tryd.underlying26 hi v _ _ hown.1
   have := hk v w (by rw [List.append_nil]; exact hown) ⟨rfl, rfl, rfl, Nat.le_refl _, fun _ _ _ => rfl⟩
   unfold Oper.wp
   simp [execOp, ho, resolve, invoke, builtin, hx, hy, hrun, Result.andThen]
   exact this
 | some ad =>
   refine wp_append_own w x y 26 ho B 5 i0 (.int .u8 0) 1 1 Tryd.underlying26 hi hz0 hz1 hz2 rfl (by decide) v xs.length (xs.map (Value.int .u8)) hx hown.1 ad ys.length cap (ys.map (Value.int .u8)) hy (by simp) hys'.cells (u8_one ys) (by unfold maxLen; omega) (by omega) hB ?_
   intro v' w' h2 h3 _
   refine hk v' w' ⟨?_, fun x hx => ?_⟩ h3
   · rw [List.length_append, List.map_append]; exact h2
   · rcases List.mem_append.1 hx with hx | hx
     · exact hown.2 x hx
     · exact hys'.mem x hx
theorem wpList_appB (hw : Region.wanted o (yielded ops a.tmps) = true) (x y : Operand) (ho : o.op = .call { callee := .builtin .append, args := #[x, y], argTypes := #[26, 26] }) {B : Nat} {v u : Value} {xs ys : List Int} (hx : a.eval x = v) (hown : Own8 w B v xs) (hy : a.eval y = u) (hys : IsB w u ys)
 (hl : xs.length + ys.length ≤ 140737488355328) (hB : B ≤ w.heap.size) (hk : ∀ v' w', Own8 w' B v' (xs ++ ys) → w.grownBy w' v.ownBlock → wpList Tryd.prog ops Q rest (a.put o.dst v') w') : wpList Tryd.prog ops Q (o :: rest) a w :=
 wpList_on hw fun _ hK => wp_appB x y ho hx hown hy hys hl hB fun v' w' h1 h2 => hK _ _ (hk v' w' h1 h2)
end
theorem isB_lit (w : World) (xs : List Int) (hb : ∀ x ∈ xs, 0 ≤ x ∧ x ≤ 255) (hl : xs.length ≤ 1000) : IsB (w.alloc (.cells (xs.map (Value.int .u8)).toArray 5)) (.slice (some ⟨w.heap.size, 0, none⟩) xs.length xs.length) xs := by
 refine ⟨bytes_mem hb, some ⟨w.heap.size, 0, none⟩, xs.length, rfl, Nat.le_refl _, by omega, (fun h => by cases h), fun _ => ⟨w.heap.size, 0, rfl, fun j hj => ?_⟩⟩
 have h := (Arr.new w (xs.map (Value.int .u8)) 5).cell (0 + j)
 rw [h, Nat.zero_add, List.getElem?_map, List.getElem?_eq_getElem hj, List.getD_eq_getElem?_getD, List.getElem?_eq_getElem hj]
 rfl
/-- A literal of slices of bytes. -/
theorem isBB_one {w : World} {v : Value} {xs : List Int} (h : IsB w v xs) : IsBB (w.alloc (.cells #[v] 26)) (.slice (some ⟨w.heap.size, 0, none⟩) 1 1) [xs] := by
 refine ⟨some ⟨w.heap.size, 0, none⟩, 1, rfl, Nat.le_refl _, by decide, fun _ => ⟨w.heap.size, 0, rfl, fun j hj => ?_⟩⟩
 have hj0 : j = 0 := by simpa using hj
 subst hj0
 exact ⟨v, (Arr.new w [v] 26).cell 0, h.below ((Below.refl _ _).alloc (Nat.le_refl _) _)⟩
end Go.Proofs.YtlofoklfggmbiaaDoor

namespace Go.Proofs.YtlofoklfggmbiaaDoor
open Go.RowKit

/-- A row of cells of the call's own. -/
def Row (w : World) (B : Nat) (t : TypeId) (v : Value) (xs : List Value) : Prop := w.ownsRow B t 1 v xs.length xs
theorem Row.kept {w w' : World} {B : Nat} {t : TypeId} {v : Value} {xs : List Value} {row : Option Nat} (h : Row w B t v xs) (hg : w.grownBy w' row) (hne : v.ownBlock = none ∨ v.ownBlock ≠ row) : Row w' B t v xs := World.ownsRow.kept h hg hne
theorem Row.grown {w w' : World} {B : Nat} {t : TypeId} {v : Value} {xs : List Value} (h : Row w B t v xs) (hg : w.grownBy w' none) : Row w' B t v xs := h.kept hg (by cases v.ownBlock <;> simp)
theorem Row.nil (w : World) (B : Nat) (t : TypeId) : Row w B t (.slice none 0 0) [] := World.ownsRow_nil _ _ _ _
theorem Row.shape {w : World} {B : Nat} {t : TypeId} {v : Value} {xs : List Value} (h : Row w B t v xs) : ∃ a c, v = .slice a xs.length c := by
 rcases h.2 with ⟨rfl, h0⟩ | ⟨g, cap, cur, rfl, _⟩
 · exact ⟨none, 0, by rw [h0]⟩
 · exact ⟨_, cap, rfl⟩
theorem Row.head {w : World} {B : Nat} {t : TypeId} {v : Value} {xs : List Value} (h : Row w B t v xs) (hp : 0 < xs.length) : ∃ g c, v = .slice (some ⟨g, 0, none⟩) xs.length c ∧ xs.length ≤ c ∧ c ≤ 9223372036854775807 ∧ B ≤ g ∧ g < w.heap.size := by
 rcases h.2 with ⟨rfl, h0⟩ | ⟨g, cap, cur, rfl, hb, hg, hle, hm, _⟩
 · omega
 · exact ⟨g, cap, rfl, hle, by simpa [maxLen] using hm, hb, (Array.getElem?_eq_some_iff.1 hg).1⟩
theorem Row.lt {w : World} {B : Nat} {t : TypeId} {v : Value} {xs : List Value} (h : Row w B t v xs) : ∀ k, v.ownBlock = some k → B ≤ k ∧ k < w.heap.size := World.ownsRow.lt h
theorem Row.mono {w : World} {B B' : Nat} {t : TypeId} {v : Value} {xs : List Value} (h : Row w B t v xs) (hb : B' ≤ B) : Row w B' t v xs := by
 obtain ⟨h1, h2⟩ := h
 refine ⟨h1, ?_⟩
 rcases h2 with h2 | ⟨g, cap, cur, hv, hg, rest⟩
 · exact Or.inl h2
 · exact Or.inr ⟨g, cap, cur, hv, by omega, rest⟩
theorem Row.apart {w : World} {b1 b2 : Nat} {t1 t2 : TypeId} {v1 v2 : Value} {c1 c2 : List Value} (h1 : Row w b1 t1 v1 c1) (h2 : Row w b2 t2 v2 c2) (ht : t1 ≠ t2) :
 v1.ownBlock = none ∨ v1.ownBlock ≠ v2.ownBlock := by
 rcases h1.2 with ⟨rfl, _⟩ | ⟨g, cap, cur, rfl, _, hg, _⟩
 · exact Or.inl rfl
 · rcases h2.2 with ⟨rfl, _⟩ | ⟨g', cap', cur', rfl, _, hg', _⟩
   · exact Or.inr (by simp [Value.ownBlock])
   · refine Or.inr fun e => ht ?_
     simp only [Value.ownBlock, Option.some.injEq] at e
     subst e
     rw [hg] at hg'
     simp only [Option.some.injEq, Obj.cells.injEq] at hg'
     exact hg'.2.1
/-- The rows that still read what they read behind an append of ys to xs in the block of v. -/
def Shares (w w' : World) (t : TypeId) (v : Value) (xs ys : List Value) : Prop :=
 ∀ B2 v2 zs, Row w B2 t v2 zs → (v2.ownBlock = v.ownBlock → ∀ j, xs.length ≤ j → j < xs.length + ys.length → j < zs.length → zs[j]? = (xs ++ ys)[j]?) → Row w' B2 t v2 zs
theorem grownBy_none (w : World) (o : Obj) : w.grownBy (w.drew.alloc o) none := ⟨rfl, rfl, rfl, by simp, fun k hk _ => by have := World.grownBy_alloc w.drew o none; exact this.block k hk (by simp)⟩

theorem run_append_share {P : Program} (w : World) (B : Nat) (t ty e : TypeId) (i : TypeInfo) (z : Value) (bytes : Nat) (ht : P.underlying t = some (.slice e)) (hi : P.info? e = some i) (hz : i.zero = some z)
 (hsize : i.size = 1) (hby : i.bytes = bytes) (hzs : z.cells.size = 1) (v : Value) (xs : List Value) (hown : Row w B e v xs)
 (a : Addr) (m c : Nat) (news : List Value) (hl : news.length = m) (hnews : ∀ j u, news[j]? = some u → w.cell? (a.add j) = some u) (h1 : ∀ u ∈ news, u.oneCell' = true)
 (h63 : xs.length + m ≤ maxLen) (hbytes : (xs.length + m) * bytes ≤ 140737488355328) (hbase : B ≤ w.heap.size) :
 ∃ v' w', (Builtin.append_ #[t, t] ty #[v, .slice (some a) m c]).run P w = .ok v' w' ∧ Row w' B e v' (xs ++ news) ∧ w.grownBy w' v.ownBlock ∧ (v'.ownBlock = v.ownBlock ∨ v'.ownBlock = some w.heap.size) ∧ Shares w w' e v xs news := by
 obtain ⟨v', w', hr, h2, h3, _, h5⟩ := run_append_own_at (P := P) w B t ty e i z 1 bytes ht hi hz hsize hby hzs (by decide) v xs.length xs hown a m c news (by omega) hnews h1 h63 hbytes hbase
 have hsmall : xs.length + m ≤ 9223372036854775807 := by simp only [maxLen] at h63; omega
 refine ⟨v', w', hr, by unfold Row; rw [List.length_append, hl]; exact h2, h3, h5, ?_⟩
 intro B2 v2 zs hz2 hag
 have hown' := hown
 rcases hown.2 with ⟨rfl, _⟩ | ⟨g, cap, cur, rfl, hbg, hg, hnc, hcm, hcs, htake⟩
 · exact hz2.grown h3
 · simp only [Nat.mul_one] at hcs htake
   by_cases hroom : xs.length + m ≤ cap
   · have hfit : xs.length * i.size + news.length ≤ cur.size := by rw [hsize, hl, hcs]; omega
     have hr2 := run_append_room (P := P) w t ty e i ht hi g xs.length cap cur hg a m c news (by rw [hsize]; omega) hnews h1 hroom hfit
     rw [hr] at hr2
     injection hr2 with _ hw
     subst hw
     by_cases hgg : v2.ownBlock = some g
     · rcases hz2.2 with ⟨rfl, _⟩ | ⟨g2, cap2, cur2, rfl, hb2, hg2, hnc2, hcm2, hcs2, htake2⟩
       · simp [Value.ownBlock] at hgg
       · simp only [Value.ownBlock, Option.some.injEq] at hgg
         subst hgg
         rw [hg] at hg2
         simp only [Option.some.injEq, Obj.cells.injEq, and_true] at hg2
         subst hg2
         simp only [Nat.mul_one] at hcs2 htake2
         have hcap : cap2 = cap := by omega
         subst hcap
         refine ⟨by simp, .inr ⟨g2, cap2, _, rfl, hb2, setRow_heap w g2 cur _ e _ hg, hnc2, hcm2, ?_, ?_⟩⟩
         · simp only [List.size_toArray, List.length_append, List.length_take, List.length_drop, Array.length_toList, hsize]
           omega
         · simp only [Nat.mul_one, hsize]
           rw [htake]
           have hcl : cur.toList.length = cap2 := by simpa using hcs
           apply List.ext_getElem?
           intro j
           by_cases hj : j < zs.length
           · rw [List.getElem?_take_of_lt hj]
             by_cases hj1 : j < xs.length
             · rw [List.append_assoc, List.getElem?_append_left hj1]
               have e1 : xs[j]? = cur.toList[j]? := by rw [← htake, List.getElem?_take_of_lt hj1]
               have e2 : zs[j]? = cur.toList[j]? := by
                have : zs[j]? = (cur.toList.take zs.length)[j]? := by rw [htake2]
                rw [this, List.getElem?_take_of_lt hj]
               rw [e1, e2]
             · by_cases hj2 : j < xs.length + news.length
               · rw [hag rfl j (by omega) hj2 hj, List.getElem?_append_left (by simp; omega)]
               · rw [List.getElem?_append_right (by simp; omega), List.getElem?_drop]
                 have e2 : zs[j]? = cur.toList[j]? := by
                  have : zs[j]? = (cur.toList.take zs.length)[j]? := by rw [htake2]
                  rw [this, List.getElem?_take_of_lt hj]
                 rw [e2]
                 congr 1
                 simp
                 omega
           · rw [List.getElem?_eq_none (by have := List.length_take_le zs.length (xs ++ news ++ List.drop (xs.length + news.length) cur.toList); omega), List.getElem?_eq_none (by omega)]
     · exact hz2.kept h3 (Or.inr hgg)
   · have holds : ∀ j u, xs[j]? = some u → w.cell? ((⟨g, 0, none⟩ : Addr).add j) = some u := hown'.cells (g := g) rfl
     have hr2 := run_append_grow (P := P) w t ty e i z ht hi hz ⟨g, 0, none⟩ xs.length cap xs (by rw [hsize]; omega) holds a m c news (by rw [hsize]; omega) hnews (by omega) (by omega) (growslice_fits (by omega) (by rw [hby]; exact hbytes))
     rw [hr] at hr2
     injection hr2 with _ hw
     subst hw
     exact hz2.grown (grownBy_none w _)
end Go.Proofs.YtlofoklfggmbiaaDoor

namespace Go.Proofs.YtlofoklfggmbiaaDoor
open Go.RowKit

/-- Nothing is changed but blocks from B on and below S, and new ones. -/
structure Out (B S : Nat) (w w' : World) : Prop where
 os : w'.os = w.os
 tape : w'.tape = w.tape
 output : w'.output = w.output
 size : w.heap.size ≤ w'.heap.size
 block : ∀ k, k < w.heap.size → (k < B ∨ S ≤ k) → w'.heap[k]? = w.heap[k]?
theorem Out.refl (B S : Nat) (w : World) : Out B S w w := ⟨rfl, rfl, rfl, Nat.le_refl _, fun _ _ _ => rfl⟩
theorem Out.trans {B S : Nat} {a b c : World} (h : Out B S a b) (k : Out B S b c) : Out B S a c :=
 ⟨k.os.trans h.os, k.tape.trans h.tape, k.output.trans h.output, Nat.le_trans h.size k.size, fun i hi ho => (k.block i (Nat.lt_of_lt_of_le hi h.size) ho).trans (h.block i hi ho)⟩
theorem Out.of_below {B S : Nat} {w w' : World} (h : Below w.heap.size w w') : Out B S w w' := ⟨h.os, h.tape, h.output, h.size, fun k hk _ => h.block k hk⟩
theorem Out.then_below {B S : Nat} {a w w' : World} (h : Out B S a w) (k : Below w.heap.size w w') : Out B S a w' := h.trans (Out.of_below k)
theorem Out.below {B S k : Nat} {w w' : World} (h : Out B S w w') (h1 : k ≤ B) (h2 : k ≤ w.heap.size) : Below k w w' := ⟨h.os, h.tape, h.output, h.size, fun i hi => h.block i (by omega) (Or.inl (by omega))⟩
theorem Out.grown {B S : Nat} {a w w' : World} {row : Option Nat} (h : Out B S a w) (hg : w.grownBy w' row) (hr : ∀ k, row = some k → (B ≤ k ∧ k < S) ∨ a.heap.size ≤ k) : Out B S a w' :=
 ⟨hg.os.trans h.os, hg.tape.trans h.tape, hg.output.trans h.output, Nat.le_trans h.size hg.size, fun k hk ho => (hg.block k (Nat.lt_of_lt_of_le hk h.size) (fun e => by have := hr k e.symm; omega)).trans (h.block k hk ho)⟩
theorem Out.of_grown {B S : Nat} {w w' : World} {row : Option Nat} (hg : w.grownBy w' row) (hr : ∀ k, row = some k → B ≤ k ∧ k < S) : Out B S w w' := (Out.refl B S w).grown hg fun k hk => Or.inl (hr k hk)
theorem Row.out {w w' : World} {B S b : Nat} {t : TypeId} {v : Value} {xs : List Value} (h : Row w b t v xs) (ho : Out B S w w') (hne : ∀ k, v.ownBlock = some k → k < B ∨ S ≤ k) : Row w' b t v xs := by
 refine ⟨h.1, ?_⟩
 rcases h.2 with hn | ⟨g, cap, cur, rfl, hb, hgg, rest⟩
 · exact .inl hn
 · refine .inr ⟨g, cap, cur, rfl, hb, ?_, rest⟩
   rw [ho.block g (Array.getElem?_eq_some_iff.1 hgg).1 (hne g rfl)]
   exact hgg
theorem Out.cell {B S : Nat} {w w' : World} (h : Out B S w w') {p : Addr} (hp : p.block < w.heap.size) (ho : p.block < B ∨ S ≤ p.block) : w'.cell? p = w.cell? p := World.cell?_of_block (h.block p.block hp ho)

/-- A cell of a row is set. -/
theorem Row.set {w : World} {B : Nat} {t : TypeId} {g n c : Nat} {xs : List Value} (h : Row w B t (.slice (some ⟨g, 0, none⟩) n c) xs) (j : Nat) (u : Value) : Row (w.setCell ⟨g, j, none⟩ u) B t (.slice (some ⟨g, 0, none⟩) n c) (xs.set j u) ∧ w.grownBy (w.setCell ⟨g, j, none⟩ u) (some g) := by
 obtain ⟨a, c2, hv⟩ := h.shape
 injection hv with _ e2 _
 subst e2
 have := World.ownsRow.stored h j u
 unfold Row
 rw [List.length_set]
 exact this
theorem Row.cellAt {w : World} {B : Nat} {t : TypeId} {g n c : Nat} {xs : List Value} (h : Row w B t (.slice (some ⟨g, 0, none⟩) n c) xs) {j : Nat} (hj : j < xs.length) : w.cell? ⟨g, j, none⟩ = xs[j]? := by
 obtain ⟨a, c2, hv⟩ := h.shape
 injection hv with _ e2 _
 subst e2
 exact World.ownsRow.cellAt h j (by omega)
theorem Row.frozenAt {w : World} {B : Nat} {t : TypeId} {g n c : Nat} {xs : List Value} (h : Row w B t (.slice (some ⟨g, 0, none⟩) n c) xs) (j : Nat) : w.frozen? ⟨g, j, none⟩ = false := by
 obtain ⟨a, c2, hv⟩ := h.shape
 injection hv with _ e2 _
 subst e2
 exact World.ownsRow.frozenAt h j
end Go.Proofs.YtlofoklfggmbiaaDoor
