/- The keys of a disk's map, sorted: slices.Sorted(maps.Keys(m)), by the shelf's contracts at this program. -/
import Derived.Shelf.SlIterI.Nil
import Derived.Shelf.SortM.Plain
import Derived.Shelf.SortM.SortNone
import Derived.Test.YtfgjhlnaaopdeabDkX
namespace Go.Proofs.Ytfgjhlnaaopdeab
open Go.RowKit Go.Maps Go.Sort Go.Shelf

def renK : Ren := ⟨fun | 7 => 49 | 10 => 59 | n => n, fun | 23 => 73 | 26 => 3 | 3 => 72 | 28 => 101 | 0 => 0 | 27 => 100 | 33 => 71 | 4 => 4 | n => n, fun | n => n⟩
def renS : Ren := ⟨fun | 6 => 48 | 8 => 57 | 9 => 58 | 11 => 60 | 13 => 62 | 12 => 61 | 23 => 72 | 24 => 73 | 14 => 63 | 15 => 64 | 16 => 65 | 17 => 66 | 18 => 67 | 19 => 68 | 20 => 69 | 21 => 70 | 22 => 71 | 25 => 74 | 26 => 75 | 27 => 76 | 28 => 77 | 29 => 78 | 30 => 79 | 31 => 80 | n => n, fun | 26 => 3 | 28 => 101 | 24 => 40 | 0 => 0 | 3 => 3 | 37 => 112 | 48 => 123 | 50 => 125 | 4 => 4 | 40 => 115 | 39 => 114 | 45 => 120 | 5 => 5 | 9 => 9 | 51 => 126 | 55 => 130 | 57 => 132 | 58 => 133 | 33 => 71 | n => n, fun | n => n⟩
def renO : Ren := ⟨fun | 5 => 58 | 8 => 62 | 7 => 61 | 19 => 72 | 20 => 73 | 10 => 63 | 11 => 64 | 12 => 65 | 13 => 66 | 14 => 67 | 15 => 68 | 16 => 69 | 17 => 70 | 18 => 71 | 30 => 74 | 31 => 75 | 32 => 76 | 33 => 77 | 34 => 78 | 35 => 79 | 40 => 80 | n => n, fun | 23 => 40 | 25 => 3 | 3 => 3 | 32 => 112 | 22 => 40 | 0 => 0 | 44 => 123 | 46 => 125 | 4 => 4 | 36 => 115 | 35 => 114 | 41 => 120 | 5 => 5 | 9 => 9 | 53 => 126 | 57 => 130 | 63 => 132 | 64 => 133 | n => n, fun | n => n⟩
theorem laysK : SlLaysZI.n7 Try.prog renK where
  mixed := by kernel_rfl
  f7 := ⟨(Try.f49).name, by decide, Try.func49.trans (congrArg some (by kernel_rfl))⟩
  f10 := ⟨(Try.f59).name, by decide, Try.func59.trans (congrArg some (by kernel_rfl))⟩
  t0 := by kernel_rfl
  a0 := fun w => by kernel_rfl
  z0 := fun w => by kernel_rfl
  v0 := fun w => by kernel_rfl
  t4 := by kernel_rfl
  a4 := fun w => by kernel_rfl
  z4 := fun w => by kernel_rfl
  v4 := fun w => by kernel_rfl
  t23 := by kernel_rfl
  a23 := fun w => by kernel_rfl
  z23 := fun w => by kernel_rfl
  v23 := fun w => by kernel_rfl
  t26 := by kernel_rfl
  a26 := fun w => by kernel_rfl
  z26 := fun w => by kernel_rfl
  v26 := fun w => by kernel_rfl
  t27 := by kernel_rfl
  a27 := fun w => by kernel_rfl
  z27 := fun w => by kernel_rfl
  v27 := fun w => by kernel_rfl
  t28 := by kernel_rfl
  a28 := fun w => by kernel_rfl
  z28 := fun w => by kernel_rfl
  v28 := fun w => by kernel_rfl
  t33 := by kernel_rfl
  a33 := fun w => by kernel_rfl
  z33 := fun w => by kernel_rfl
  v33 := fun w => by kernel_rfl
theorem laysS : SlLaysZI.n6 Try.prog renS where
  mixed := by kernel_rfl
  f6 := ⟨(Try.f48).name, by decide, Try.func48.trans (congrArg some (by kernel_rfl))⟩
  f8 := ⟨(Try.f57).name, by decide, Try.func57.trans (congrArg some (by kernel_rfl))⟩
  f11 := ⟨(Try.f60).name, by decide, Try.func60.trans (congrArg some (by kernel_rfl))⟩
  t0 := by kernel_rfl
  a0 := fun w => by kernel_rfl
  z0 := fun w => by kernel_rfl
  v0 := fun w => by kernel_rfl
  t24 := by kernel_rfl
  a24 := fun w => by kernel_rfl
  z24 := fun w => by kernel_rfl
  v24 := fun w => by kernel_rfl
  t26 := by kernel_rfl
  a26 := fun w => by kernel_rfl
  z26 := fun w => by kernel_rfl
  v26 := fun w => by kernel_rfl
  t28 := by kernel_rfl
  a28 := fun w => by kernel_rfl
  z28 := fun w => by kernel_rfl
  v28 := fun w => by kernel_rfl
  i26 := by kernel_rfl
theorem laysO : SlLaysM.n5 Try.prog renO where
  mixed := by kernel_rfl
  f5 := ⟨(Try.f58).name, by decide, Try.func58.trans (congrArg some (by kernel_rfl))⟩
  f7 := ⟨(Try.f61).name, by decide, Try.func61.trans (congrArg some (by kernel_rfl))⟩
  f8 := Try.func62.trans (congrArg some (by kernel_rfl))
  f10 := ⟨(Try.f63).name, by decide, Try.func63.trans (congrArg some (by kernel_rfl))⟩
  f11 := ⟨(Try.f64).name, by decide, Try.func64.trans (congrArg some (by kernel_rfl))⟩
  f12 := ⟨(Try.f65).name, by decide, Try.func65.trans (congrArg some (by kernel_rfl))⟩
  f13 := ⟨(Try.f66).name, by decide, Try.func66.trans (congrArg some (by kernel_rfl))⟩
  f14 := ⟨(Try.f67).name, by decide, Try.func67.trans (congrArg some (by kernel_rfl))⟩
  f15 := ⟨(Try.f68).name, by decide, Try.func68.trans (congrArg some (by kernel_rfl))⟩
  f16 := ⟨(Try.f69).name, by decide, Try.func69.trans (congrArg some (by kernel_rfl))⟩
  f17 := ⟨(Try.f70).name, by decide, Try.func70.trans (congrArg some (by kernel_rfl))⟩
  f18 := ⟨(Try.f71).name, by decide, Try.func71.trans (congrArg some (by kernel_rfl))⟩
  f19 := Try.func72.trans (congrArg some (by kernel_rfl))
  f20 := Try.func73.trans (congrArg some (by kernel_rfl))
  f30 := ⟨(Try.f74).name, by decide, Try.func74.trans (congrArg some (by kernel_rfl))⟩
  f31 := Try.func75.trans (congrArg some (by kernel_rfl))
  f32 := Try.func76.trans (congrArg some (by kernel_rfl))
  f33 := ⟨(Try.f77).name, by decide, Try.func77.trans (congrArg some (by kernel_rfl))⟩
  f34 := ⟨(Try.f78).name, by decide, Try.func78.trans (congrArg some (by kernel_rfl))⟩
  f35 := ⟨(Try.f79).name, by decide, Try.func79.trans (congrArg some (by kernel_rfl))⟩
  f40 := ⟨(Try.f80).name, by decide, Try.func80.trans (congrArg some (by kernel_rfl))⟩
  t0 := by kernel_rfl
  a0 := fun w => by kernel_rfl
  z0 := fun w => by kernel_rfl
  v0 := fun w => by kernel_rfl
  t3 := by kernel_rfl
  a3 := fun w => by kernel_rfl
  z3 := fun w => by kernel_rfl
  v3 := fun w => by kernel_rfl
  t4 := by kernel_rfl
  a4 := fun w => by kernel_rfl
  z4 := fun w => by kernel_rfl
  v4 := fun w => by kernel_rfl
  t5 := by kernel_rfl
  a5 := fun w => by kernel_rfl
  z5 := fun w => by kernel_rfl
  v5 := fun w => by kernel_rfl
  t9 := by kernel_rfl
  a9 := fun w => by kernel_rfl
  z9 := fun w => by kernel_rfl
  v9 := fun w => by kernel_rfl
  t22 := by kernel_rfl
  a22 := fun w => by kernel_rfl
  z22 := fun w => by kernel_rfl
  v22 := fun w => by kernel_rfl
  t23 := by kernel_rfl
  a23 := fun w => by kernel_rfl
  z23 := fun w => by kernel_rfl
  v23 := fun w => by kernel_rfl
  t25 := by kernel_rfl
  a25 := fun w => by kernel_rfl
  z25 := fun w => by kernel_rfl
  v25 := fun w => by kernel_rfl
  t32 := by kernel_rfl
  a32 := fun w => by kernel_rfl
  z32 := fun w => by kernel_rfl
  v32 := fun w => by kernel_rfl
  t35 := by kernel_rfl
  a35 := fun w => by kernel_rfl
  z35 := fun w => by kernel_rfl
  v35 := fun w => by kernel_rfl
  t36 := by kernel_rfl
  a36 := fun w => by kernel_rfl
  z36 := fun w => by kernel_rfl
  v36 := fun w => by kernel_rfl
  t41 := by kernel_rfl
  a41 := fun w => by kernel_rfl
  z41 := fun w => by kernel_rfl
  v41 := fun w => by kernel_rfl
  t44 := by kernel_rfl
  a44 := fun w => by kernel_rfl
  z44 := fun w => by kernel_rfl
  v44 := fun w => by kernel_rfl
  t46 := by kernel_rfl
  a46 := fun w => by kernel_rfl
  z46 := fun w => by kernel_rfl
  v46 := fun w => by kernel_rfl
  t53 := by kernel_rfl
  a53 := fun w => by kernel_rfl
  z53 := fun w => by kernel_rfl
  v53 := fun w => by kernel_rfl
  t57 := by kernel_rfl
  a57 := fun w => by kernel_rfl
  z57 := fun w => by kernel_rfl
  v57 := fun w => by kernel_rfl
  t63 := by kernel_rfl
  a63 := fun w => by kernel_rfl
  z63 := fun w => by kernel_rfl
  v63 := fun w => by kernel_rfl
  t64 := by kernel_rfl
  a64 := fun w => by kernel_rfl
  z64 := fun w => by kernel_rfl
  v64 := fun w => by kernel_rfl
theorem sortsO (m : Nat) : AnyZI.SortsIn Try.prog renS Fence.wide m :=
  ⟨fun blk off cap ss W hH hblk hsz => callsIn_wide.2 (AnyM.slices_Sort_int laysO blk off cap ss W hH hblk hsz),
   fun p cap W => callsIn_wide.2 (AnyM.slices_Sort_int_none laysO p cap W)⟩
abbrev fKeys : Nat := 49
abbrev fKeys1 : Nat := 59
theorem keys_calls (mb : Option Nat) (W : World) : Calls Try.prog 49 #[.map mb] W fun e w' => e = .returned (.func (.func 59) #[] #[.pointer (some ⟨W.heap.size, 0, none⟩)]) ∧ w' = W.alloc (.cells #[.map mb] 73) :=
  (callsIn_wide (n := 5)).1 (AnyZI.keys_in laysK Fence.wide 5 trivial rfl mb W)
/-- The map's keys are those of the sectors that have writes. -/
theorem dk_keys {w : World} {gm n : Nat} {D : AD} {M : DataW Value} (hM : w.ownsMap Try.prog 3 RV gm n M) (h1 : ∀ i : Nat, Maps.has M (.int .i64 (i : Int)) = decide (0 < (D.wr i).length)) (h2 : ∀ x : Int, Maps.has M (.int .i64 x) = true → 0 ≤ x) (hok : D.Ok) :
    (D.keys.map fun i : Nat => (i : Int)).Perm (intKeys M) ∧ Maps.size M = D.keys.length := by
  obtain ⟨es, hD, hpw, _⟩ := hM.entries keyI
  obtain ⟨es', hD', hko⟩ := hM.keysOf
  obtain rfl : es = es' := by rw [hD] at hD'; simpa using hD'
  subst hD
  have hp : (D.keys.map fun i : Nat => (i : Int)).Perm (intKeys (.map es)) := by
    refine perm_intKeys hpw (fun p hp => ?_) ?_ (fun x => ?_)
    · obtain ⟨v, hv⟩ := hko p hp
      obtain ⟨x, _, hx, _⟩ := Maps.keyOf_i64 Try.underlying3 hv
      exact ⟨x, hx⟩
    · exact List.pairwise_map.2 (D.keys_nodup.imp fun h e => h (by omega))
    · rw [List.mem_map]
      constructor
      · rintro ⟨i, hi, rfl⟩
        rw [h1 i]
        exact (List.mem_filter.1 hi).2
      · intro hx
        have h0 := h2 x hx
        obtain ⟨i, rfl⟩ := Int.eq_ofNat_of_zero_le h0
        have hi := h1 i
        rw [hx] at hi
        refine ⟨i, List.mem_filter.2 ⟨?_, hi.symm⟩, rfl⟩
        rw [List.mem_range]
        by_cases hl : i < D.la.length
        · exact hl
        · rw [hok.out i (by omega)] at hi
          simp at hi
  refine ⟨hp, ?_⟩
  have := hp.length_eq
  rw [List.length_map] at this
  rw [this]
  simp [intKeys, Maps.size]
theorem keys_le {D : AD} (hok : D.Ok) : D.keys.length ≤ 65536 := by
  have h1 : D.keys.length ≤ (List.range D.la.length).length := List.length_filter_le _ _
  rw [List.length_range] at h1
  have := hok.hi
  omega
theorem keys_merge {D : AD} {ss : List Int} (h : ss.Perm (D.keys.map fun i : Nat => (i : Int))) : ss.mergeSort (fun x y => decide (x ≤ y)) = D.keys.map fun i : Nat => (i : Int) := by
  have e := mergeSort_of_perm_i h
  refine e.trans (List.mergeSort_of_pairwise ?_)
  refine List.pairwise_map.2 (D.keys_sorted.imp fun {a b} h => ?_)
  simp only [leI, decide_eq_true_eq]
  omega
theorem sorted_calls {w : World} {p gl gm : Nat} {V : Nat → Value} {D : AD} (h : Dk w p gl gm V D) :
    Calls Try.prog 48 #[.func (.func 59) #[] #[.pointer (some ⟨w.heap.size, 0, none⟩)]] (w.alloc (.cells #[.map (some gm)] 73)) fun e w' =>
      ∃ v, e = .returned v ∧ w'.ownsRow w.heap.size 3 1 v D.keys.length (D.keys.map fun i : Nat => .int .i64 (i : Int)) ∧ Below w.heap.size w w' := by
  obtain ⟨M, hM, h2, h3⟩ := h.map
  have hlt := hM.lt
  obtain ⟨hp, hsz⟩ := dk_keys hM (fun i => (h2 i).2) h3 h.ok
  have hle := keys_le h.ok
  have hM1 : (w.alloc (.cells #[.map (some gm)] 73)).ownsMap Try.prog 3 RV gm D.wt.toNat M := by
    obtain ⟨es, clock, hb, Ft, hs, hD⟩ := hM
    exact ⟨es, clock, (Below.heap_alloc _ _ gm hlt).trans hb, Ft, hs, hD⟩
  have hseq : SeqGives Fence.wide 2 Try.prog 59 #[.pointer (some ⟨w.heap.size, 0, none⟩)] encZ (fun ss => ss.Perm (intKeys M)) (Maps.size M) (w.alloc (.cells #[.map (some gm)] 73)) :=
    AnyZI.keys_gives (ρ := renK) { laysK with } Fence.wide _ trivial rfl (by omega) w.heap.size gm D.wt.toNat M _ (by simp) (by simp) hM1
  have cS := AnyZI.sorted_in laysS Fence.wide 5 trivial trivial trivial trivial rfl (by omega) (sortsO _) (enters_of Try.func58 (by kernel_rfl) rfl) 59 #[.pointer (some ⟨w.heap.size, 0, none⟩)] trivial (enters_of Try.func59 (by kernel_rfl) rfl) _ _ (by rw [hsz]; unfold maxLen; omega) (by rw [hsz]; omega) _ hseq
  refine ((callsIn_wide (n := 5)).1 cS).mono ?_
  rintro e w' ⟨v, ss, rfl, hS, hrow, _, hb⟩
  have hss := hS.trans hp.symm
  have hl : ss.length = D.keys.length := by have := hss.length_eq; rwa [List.length_map] at this
  rw [keys_merge hss, hl, List.map_map] at hrow
  refine ⟨v, rfl, ownsRow_base_a hrow (by simp), ((Below.refl _ w).alloc (Nat.le_refl _) _).trans (hb.mono (by simp))⟩
end Go.Proofs.Ytfgjhlnaaopdeab
