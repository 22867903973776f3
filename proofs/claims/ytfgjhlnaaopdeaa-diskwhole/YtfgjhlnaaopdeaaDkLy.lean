/- The keys of a disk's map, sorted: slices.Sorted(maps.Keys(m)), by the shelf's contracts at this program. -/
import Derived.Shelf.SlIterI.Nil
import Derived.Shelf.SortM.Plain
import Derived.Shelf.SortM.SortNone
import Derived.Test.YtfgjhlnaaopdeaaDkX
namespace Go.Proofs.Ytfgjhlnaaopdeaa
open Go.RowKit Go.Maps Go.Sort Go.Shelf

def renK : Ren := ⟨fun | 7 => 53 | 10 => 56 | n => n, fun | 23 => 82 | 26 => 3 | 3 => 81 | 28 => 100 | 0 => 0 | 27 => 99 | 33 => 88 | 4 => 4 | n => n, fun | n => n⟩
def renS : Ren := ⟨fun | 6 => 52 | 8 => 54 | 9 => 55 | 11 => 57 | 13 => 59 | 12 => 58 | 23 => 69 | 24 => 70 | 14 => 60 | 15 => 61 | 16 => 62 | 17 => 63 | 18 => 64 | 19 => 65 | 20 => 66 | 21 => 67 | 22 => 68 | 25 => 71 | 26 => 72 | 27 => 73 | 28 => 74 | 29 => 75 | 30 => 76 | 31 => 77 | n => n, fun | 26 => 3 | 28 => 100 | 24 => 28 | 0 => 0 | 3 => 3 | 37 => 106 | 48 => 117 | 50 => 119 | 4 => 4 | 40 => 109 | 39 => 108 | 45 => 114 | 5 => 5 | 9 => 9 | 51 => 120 | 55 => 124 | 57 => 126 | 58 => 127 | 33 => 88 | n => n, fun | n => n⟩
def renO : Ren := ⟨fun | 5 => 55 | 8 => 59 | 7 => 58 | 19 => 69 | 20 => 70 | 10 => 60 | 11 => 61 | 12 => 62 | 13 => 63 | 14 => 64 | 15 => 65 | 16 => 66 | 17 => 67 | 18 => 68 | 30 => 71 | 31 => 72 | 32 => 73 | 33 => 74 | 34 => 75 | 35 => 76 | 40 => 77 | n => n, fun | 23 => 28 | 25 => 3 | 3 => 3 | 32 => 106 | 22 => 28 | 0 => 0 | 44 => 117 | 46 => 119 | 4 => 4 | 36 => 109 | 35 => 108 | 41 => 114 | 5 => 5 | 9 => 9 | 53 => 120 | 57 => 124 | 63 => 126 | 64 => 127 | n => n, fun | n => n⟩
theorem laysK : SlLaysZI.n7 Try.prog renK where
  mixed := by kernel_rfl
  f7 := ⟨(Try.f53).name, by decide, Try.func53.trans (congrArg some (by kernel_rfl))⟩
  f10 := ⟨(Try.f56).name, by decide, Try.func56.trans (congrArg some (by kernel_rfl))⟩
  t0 := by kernel_rfl
  a0 := fun w => by kernel_rfl
  z0 := fun w => by kernel_rfl
  v0 := fun w => by kernel_rfl
  t4 := by kernel_rfl
  a4 := fun w => by kernel_rfl
  z4 := fun w => by kernel_rfl
  v4 := fun w => by kernel_rfl
  t23 := by kernel_rfl
  a23 := fun w => by kernel_rfl
  z23 := fun w => by kernel_rfl
  v23 := fun w => by kernel_rfl
  t26 := by kernel_rfl
  a26 := fun w => by kernel_rfl
  z26 := fun w => by kernel_rfl
  v26 := fun w => by kernel_rfl
  t27 := by kernel_rfl
  a27 := fun w => by kernel_rfl
  z27 := fun w => by kernel_rfl
  v27 := fun w => by kernel_rfl
  t28 := by kernel_rfl
  a28 := fun w => by kernel_rfl
  z28 := fun w => by kernel_rfl
  v28 := fun w => by kernel_rfl
  t33 := by kernel_rfl
  a33 := fun w => by kernel_rfl
  z33 := fun w => by kernel_rfl
  v33 := fun w => by kernel_rfl
theorem laysS : SlLaysZI.n6 Try.prog renS where
  mixed := by kernel_rfl
  f6 := ⟨(Try.f52).name, by decide, Try.func52.trans (congrArg some (by kernel_rfl))⟩
  f8 := ⟨(Try.f54).name, by decide, Try.func54.trans (congrArg some (by kernel_rfl))⟩
  f11 := ⟨(Try.f57).name, by decide, Try.func57.trans (congrArg some (by kernel_rfl))⟩
  t0 := by kernel_rfl
  a0 := fun w => by kernel_rfl
  z0 := fun w => by kernel_rfl
  v0 := fun w => by kernel_rfl
  t24 := by kernel_rfl
  a24 := fun w => by kernel_rfl
  z24 := fun w => by kernel_rfl
  v24 := fun w => by kernel_rfl
  t26 := by kernel_rfl
  a26 := fun w => by kernel_rfl
  z26 := fun w => by kernel_rfl
  v26 := fun w => by kernel_rfl
  t28 := by kernel_rfl
  a28 := fun w => by kernel_rfl
  z28 := fun w => by kernel_rfl
  v28 := fun w => by kernel_rfl
  i26 := by kernel_rfl
theorem laysO : SlLaysM.n5 Try.prog renO where
  mixed := by kernel_rfl
  f5 := ⟨(Try.f55).name, by decide, Try.func55.trans (congrArg some (by kernel_rfl))⟩
  f7 := ⟨(Try.f58).name, by decide, Try.func58.trans (congrArg some (by kernel_rfl))⟩
  f8 := Try.func59.trans (congrArg some (by kernel_rfl))
  f10 := ⟨(Try.f60).name, by decide, Try.func60.trans (congrArg some (by kernel_rfl))⟩
  f11 := ⟨(Try.f61).name, by decide, Try.func61.trans (congrArg some (by kernel_rfl))⟩
  f12 := ⟨(Try.f62).name, by decide, Try.func62.trans (congrArg some (by kernel_rfl))⟩
  f13 := ⟨(Try.f63).name, by decide, Try.func63.trans (congrArg some (by kernel_rfl))⟩
  f14 := ⟨(Try.f64).name, by decide, Try.func64.trans (congrArg some (by kernel_rfl))⟩
  f15 := ⟨(Try.f65).name, by decide, Try.func65.trans (congrArg some (by kernel_rfl))⟩
  f16 := ⟨(Try.f66).name, by decide, Try.func66.trans (congrArg some (by kernel_rfl))⟩
  f17 := ⟨(Try.f67).name, by decide, Try.func67.trans (congrArg some (by kernel_rfl))⟩
  f18 := ⟨(Try.f68).name, by decide, Try.func68.trans (congrArg some (by kernel_rfl))⟩
  f19 := Try.func69.trans (congrArg some (by kernel_rfl))
  f20 := Try.func70.trans (congrArg some (by kernel_rfl))
  f30 := ⟨(Try.f71).name, by decide, Try.func71.trans (congrArg some (by kernel_rfl))⟩
  f31 := Try.func72.trans (congrArg some (by kernel_rfl))
  f32 := Try.func73.trans (congrArg some (by kernel_rfl))
  f33 := ⟨(Try.f74).name, by decide, Try.func74.trans (congrArg some (by kernel_rfl))⟩
  f34 := ⟨(Try.f75).name, by decide, Try.func75.trans (congrArg some (by kernel_rfl))⟩
  f35 := ⟨(Try.f76).name, by decide, Try.func76.trans (congrArg some (by kernel_rfl))⟩
  f40 := ⟨(Try.f77).name, by decide, Try.func77.trans (congrArg some (by kernel_rfl))⟩
  t0 := by kernel_rfl
  a0 := fun w => by kernel_rfl
  z0 := fun w => by kernel_rfl
  v0 := fun w => by kernel_rfl
  t3 := by kernel_rfl
  a3 := fun w => by kernel_rfl
  z3 := fun w => by kernel_rfl
  v3 := fun w => by kernel_rfl
  t4 := by kernel_rfl
  a4 := fun w => by kernel_rfl
  z4 := fun w => by kernel_rfl
  v4 := fun w => by kernel_rfl
  t5 := by kernel_rfl
  a5 := fun w => by kernel_rfl
  z5 := fun w => by kernel_rfl
  v5 := fun w => by kernel_rfl
  t9 := by kernel_rfl
  a9 := fun w => by kernel_rfl
  z9 := fun w => by kernel_rfl
  v9 := fun w => by kernel_rfl
  t22 := by kernel_rfl
  a22 := fun w => by kernel_rfl
  z22 := fun w => by kernel_rfl
  v22 := fun w => by kernel_rfl
  t23 := by kernel_rfl
  a23 := fun w => by kernel_rfl
  z23 := fun w => by kernel_rfl
  v23 := fun w => by kernel_rfl
  t25 := by kernel_rfl
  a25 := fun w => by kernel_rfl
  z25 := fun w => by kernel_rfl
  v25 := fun w => by kernel_rfl
  t32 := by kernel_rfl
  a32 := fun w => by kernel_rfl
  z32 := fun w => by kernel_rfl
  v32 := fun w => by kernel_rfl
  t35 := by kernel_rfl
  a35 := fun w => by kernel_rfl
  z35 := fun w => by kernel_rfl
  v35 := fun w => by kernel_rfl
  t36 := by kernel_rfl
  a36 := fun w => by kernel_rfl
  z36 := fun w => by kernel_rfl
  v36 := fun w => by kernel_rfl
  t41 := by kernel_rfl
  a41 := fun w => by kernel_rfl
  z41 := fun w => by kernel_rfl
  v41 := fun w => by kernel_rfl
  t44 := by kernel_rfl
  a44 := fun w => by kernel_rfl
  z44 := fun w => by kernel_rfl
  v44 := fun w => by kernel_rfl
  t46 := by kernel_rfl
  a46 := fun w => by kernel_rfl
  z46 := fun w => by kernel_rfl
  v46 := fun w => by kernel_rfl
  t53 := by kernel_rfl
  a53 := fun w => by kernel_rfl
  z53 := fun w => by kernel_rfl
  v53 := fun w => by kernel_rfl
  t57 := by kernel_rfl
  a57 := fun w => by kernel_rfl
  z57 := fun w => by kernel_rfl
  v57 := fun w => by kernel_rfl
  t63 := by kernel_rfl
  a63 := fun w => by kernel_rfl
  z63 := fun w => by kernel_rfl
  v63 := fun w => by kernel_rfl
  t64 := by kernel_rfl
  a64 := fun w => by kernel_rfl
  z64 := fun w => by kernel_rfl
  v64 := fun w => by kernel_rfl
theorem sortsO (m : Nat) : AnyZI.SortsIn Try.prog renS Fence.wide m :=
  ⟨fun blk off cap ss W hH hblk hsz => callsIn_wide.2 (AnyM.slices_Sort_int laysO blk off cap ss W hH hblk hsz),
   fun p cap W => callsIn_wide.2 (AnyM.slices_Sort_int_none laysO p cap W)⟩
abbrev fKeys : Nat := 53
abbrev fKeys1 : Nat := 56
theorem keys_calls (mb : Option Nat) (W : World) : Calls Try.prog 53 #[.map mb] W fun e w' => e = .returned (.func (.func 56) #[] #[.pointer (some ⟨W.heap.size, 0, none⟩)]) ∧ w' = W.alloc (.cells #[.map mb] 82) :=
  (callsIn_wide (n := 5)).1 (AnyZI.keys_in laysK Fence.wide 5 trivial rfl mb W)
/-- The map's keys are those of the sectors that have writes. -/
theorem dk_keys {w : World} {gm n : Nat} {D : AD} {M : DataW Value} (hM : w.ownsMap Try.prog 3 RV gm n M) (h1 : ∀ i : Nat, Maps.has M (.int .i64 (i : Int)) = decide (0 < (D.wr i).length)) (h2 : ∀ x : Int, Maps.has M (.int .i64 x) = true → 0 ≤ x) (hok : D.Ok) :
    (D.keys.map fun i : Nat => (i : Int)).Perm (intKeys M) ∧ Maps.size M = D.keys.length := by
  obtain ⟨es, hD, hpw, _⟩ := hM.entries keyI
  obtain ⟨es', hD', hko⟩ := hM.keysOf
  obtain rfl : es = es' := by rw [hD] at hD'; simpa using hD'
  subst hD
  have hp : (D.keys.map fun i : Nat => (i : Int)).Perm (intKeys (.map es)) := by
    refine perm_intKeys hpw (fun p hp => ?_) ?_ (fun x => ?_)
    · obtain ⟨v, hv⟩ := hko p hp
      obtain ⟨x, _, hx, _⟩ := Maps.keyOf_i64 Try.underlying3 hv
      exact ⟨x, hx⟩
    · exact List.pairwise_map.2 (D.keys_nodup.imp fun h e => h (by omega))
    · rw [List.mem_map]
      constructor
      · rintro ⟨i, hi, rfl⟩
        rw [h1 i]
        exact (List.mem_filter.1 hi).2
      · intro hx
        have h0 := h2 x hx
        obtain ⟨i, rfl⟩ := Int.eq_ofNat_of_zero_le h0
        have hi := h1 i
        rw [hx] at hi
        refine ⟨i, List.mem_filter.2 ⟨?_, hi.symm⟩, rfl⟩
        rw [List.mem_range]
        by_cases hl : i < D.la.length
        · exact hl
        · rw [hok.out i (by omega)] at hi
          simp at hi
  refine ⟨hp, ?_⟩
  have := hp.length_eq
  rw [List.length_map] at this
  rw [this]
  simp [intKeys, Maps.size]
theorem keys_le {D : AD} (hok : D.Ok) : D.keys.length ≤ 65536 := by
  have h1 : D.keys.length ≤ (List.range D.la.length).length := List.length_filter_le _ _
  rw [List.length_range] at h1
  have := hok.hi
  omega
theorem keys_merge {D : AD} {ss : List Int} (h : ss.Perm (D.keys.map fun i : Nat => (i : Int))) : ss.mergeSort (fun x y => decide (x ≤ y)) = D.keys.map fun i : Nat => (i : Int) := by
  have e := mergeSort_of_perm_i h
  refine e.trans (List.mergeSort_of_pairwise ?_)
  refine List.pairwise_map.2 (D.keys_sorted.imp fun {a b} h => ?_)
  simp only [leI, decide_eq_true_eq]
  omega
theorem sorted_calls {w : World} {p gl gm : Nat} {V : Nat → Value} {D : AD} (h : Dk w p gl gm V D) :
    Calls Try.prog 52 #[.func (.func 56) #[] #[.pointer (some ⟨w.heap.size, 0, none⟩)]] (w.alloc (.cells #[.map (some gm)] 82)) fun e w' =>
      ∃ v, e = .returned v ∧ w'.ownsRow w.heap.size 3 1 v D.keys.length (D.keys.map fun i : Nat => .int .i64 (i : Int)) ∧ Below w.heap.size w w' := by
  obtain ⟨M, hM, h2, h3⟩ := h.map
  have hlt := hM.lt
  obtain ⟨hp, hsz⟩ := dk_keys hM (fun i => (h2 i).2) h3 h.ok
  have hle := keys_le h.ok
  have hM1 : (w.alloc (.cells #[.map (some gm)] 82)).ownsMap Try.prog 3 RV gm D.wt.toNat M := by
    obtain ⟨es, clock, hb, Ft, hs, hD⟩ := hM
    exact ⟨es, clock, (Below.heap_alloc _ _ gm hlt).trans hb, Ft, hs, hD⟩
  have hseq : SeqGives Fence.wide 2 Try.prog 56 #[.pointer (some ⟨w.heap.size, 0, none⟩)] encZ (fun ss => ss.Perm (intKeys M)) (Maps.size M) (w.alloc (.cells #[.map (some gm)] 82)) :=
    AnyZI.keys_gives (ρ := renK) { laysK with } Fence.wide _ trivial rfl (by omega) w.heap.size gm D.wt.toNat M _ (by simp) (by simp) hM1
  have cS := AnyZI.sorted_in laysS Fence.wide 5 trivial trivial trivial trivial rfl (by omega) (sortsO _) (enters_of Try.func55 (by kernel_rfl) rfl) 56 #[.pointer (some ⟨w.heap.size, 0, none⟩)] trivial (enters_of Try.func56 (by kernel_rfl) rfl) _ _ (by rw [hsz]; unfold maxLen; omega) (by rw [hsz]; omega) _ hseq
  refine ((callsIn_wide (n := 5)).1 cS).mono ?_
  rintro e w' ⟨v, ss, rfl, hS, hrow, _, hb⟩
  have hss := hS.trans hp.symm
  have hl : ss.length = D.keys.length := by have := hss.length_eq; rwa [List.length_map] at this
  rw [keys_merge hss, hl, List.map_map] at hrow
  refine ⟨v, rfl, ownsRow_base_a hrow (by simp), ((Below.refl _ w).alloc (Nat.le_refl _) _).trans (hb.mono (by simp))⟩
end Go.Proofs.Ytfgjhlnaaopdeaa
