/- The keys of a disk's map, sorted: slices.Sorted(maps.Keys(m)), by the shelf's contracts at this program. What Load answers. What Image answers. -/
import Derived.Shelf.SlIterI.Nil
import Derived.Shelf.SortM.Plain
import Derived.Shelf.SortM.SortNone
import Derived.Test.YthhjlopgpmaokabDoorDkX
import Derived.Test.YthhjlopgpmaokabDoorKA
namespace Go.Proofs.YthhjlopgpmaokabDoor
open Go.RowKit Go.Maps Go.Sort Go.Shelf

def renK : Ren := ⟨fun | 7 => 70 | 10 => 74 | n => n, fun | 23 => 87 | 26 => 3 | 3 => 86 | 28 => 125 | 0 => 0 | 27 => 124 | 33 => 61 | 4 => 4 | n => n, fun | n => n⟩
def renS : Ren := ⟨fun | 6 => 69 | 8 => 72 | 9 => 73 | 11 => 75 | 13 => 77 | 12 => 76 | 23 => 87 | 24 => 88 | 14 => 78 | 15 => 79 | 16 => 80 | 17 => 81 | 18 => 82 | 19 => 83 | 20 => 84 | 21 => 85 | 22 => 86 | 25 => 89 | 26 => 90 | 27 => 91 | 28 => 92 | 29 => 93 | 30 => 94 | 31 => 95 | n => n, fun | 26 => 3 | 28 => 125 | 24 => 122 | 0 => 0 | 3 => 3 | 37 => 115 | 48 => 106 | 50 => 105 | 4 => 4 | 40 => 134 | 39 => 133 | 45 => 138 | 5 => 5 | 9 => 9 | 51 => 142 | 55 => 146 | 57 => 148 | 58 => 149 | 33 => 61 | n => n, fun | n => n⟩
def renO : Ren := ⟨fun | 5 => 73 | 8 => 77 | 7 => 76 | 19 => 87 | 20 => 88 | 10 => 78 | 11 => 79 | 12 => 80 | 13 => 81 | 14 => 82 | 15 => 83 | 16 => 84 | 17 => 85 | 18 => 86 | 30 => 89 | 31 => 90 | 32 => 91 | 33 => 92 | 34 => 93 | 35 => 94 | 40 => 95 | n => n, fun | 23 => 122 | 25 => 3 | 3 => 3 | 32 => 115 | 22 => 122 | 0 => 0 | 44 => 106 | 46 => 105 | 4 => 4 | 36 => 134 | 35 => 133 | 41 => 138 | 5 => 5 | 9 => 9 | 53 => 142 | 57 => 146 | 63 => 148 | 64 => 149 | n => n, fun | n => n⟩
theorem laysK : SlLaysZI.n7 Tryd.prog renK where
  mixed := by kernel_rfl
  f7 := ⟨(Tryd.f70).name, by decide, Tryd.func70.trans (congrArg some (by kernel_rfl))⟩
  f10 := ⟨(Tryd.f74).name, by decide, Tryd.func74.trans (congrArg some (by kernel_rfl))⟩
  t0 := by kernel_rfl
  a0 := fun w => by kernel_rfl
  z0 := fun w => by kernel_rfl
  v0 := fun w => by kernel_rfl
  t4 := by kernel_rfl
  a4 := fun w => by kernel_rfl
  z4 := fun w => by kernel_rfl
  v4 := fun w => by kernel_rfl
  t23 := by kernel_rfl
  a23 := fun w => by kernel_rfl
  z23 := fun w => by kernel_rfl
  v23 := fun w => by kernel_rfl
  t26 := by kernel_rfl
  a26 := fun w => by kernel_rfl
  z26 := fun w => by kernel_rfl
  v26 := fun w => by kernel_rfl
  t27 := by kernel_rfl
  a27 := fun w => by kernel_rfl
  z27 := fun w => by kernel_rfl
  v27 := fun w => by kernel_rfl
  t28 := by kernel_rfl
  a28 := fun w => by kernel_rfl
  z28 := fun w => by kernel_rfl
  v28 := fun w => by kernel_rfl
  t33 := by kernel_rfl
  a33 := fun w => by kernel_rfl
  z33 := fun w => by kernel_rfl
  v33 := fun w => by kernel_rfl
theorem laysS : SlLaysZI.n6 Tryd.prog renS where
  mixed := by kernel_rfl
  f6 := ⟨(Tryd.f69).name, by decide, Tryd.func69.trans (congrArg some (by kernel_rfl))⟩
  f8 := ⟨(Tryd.f72).name, by decide, Tryd.func72.trans (congrArg some (by kernel_rfl))⟩
  f11 := ⟨(Tryd.f75).name, by decide, Tryd.func75.trans (congrArg some (by kernel_rfl))⟩
  t0 := by kernel_rfl
  a0 := fun w => by kernel_rfl
  z0 := fun w => by kernel_rfl
  v0 := fun w => by kernel_rfl
  t24 := by kernel_rfl
  a24 := fun w => by kernel_rfl
  z24 := fun w => by kernel_rfl
  v24 := fun w => by kernel_rfl
  t26 := by kernel_rfl
  a26 := fun w => by kernel_rfl
  z26 := fun w => by kernel_rfl
  v26 := fun w => by kernel_rfl
  t28 := by kernel_rfl
  a28 := fun w => by kernel_rfl
  z28 := fun w => by kernel_rfl
  v28 := fun w => by kernel_rfl
  i26 := by kernel_rfl
theorem laysO : SlLaysM.n5 Tryd.prog renO where
  mixed := by kernel_rfl
  f5 := ⟨(Tryd.f73).name, by decide, Tryd.func73.trans (congrArg some (by kernel_rfl))⟩
  f7 := ⟨(Tryd.f76).name, by decide, Tryd.func76.trans (congrArg some (by kernel_rfl))⟩
  f8 := Tryd.func77.trans (congrArg some (by kernel_rfl))
  f10 := ⟨(Tryd.f78).name, by decide, Tryd.func78.trans (congrArg some (by kernel_rfl))⟩
  f11 := ⟨(Tryd.f79).name, by decide, Tryd.func79.trans (congrArg some (by kernel_rfl))⟩
  f12 := ⟨(Tryd.f80).name, by decide, Tryd.func80.trans (congrArg some (by kernel_rfl))⟩
  f13 := ⟨(Tryd.f81).name, by decide, Tryd.func81.trans (congrArg some (by kernel_rfl))⟩
  f14 := ⟨(Tryd.f82).name, by decide, Tryd.func82.trans (congrArg some (by kernel_rfl))⟩
  f15 := ⟨(Tryd.f83).name, by decide, Tryd.func83.trans (congrArg some (by kernel_rfl))⟩
  f16 := ⟨(Tryd.f84).name, by decide, Tryd.func84.trans (congrArg some (by kernel_rfl))⟩
  f17 := ⟨(Tryd.f85).name, by decide, Tryd.func85.trans (congrArg some (by kernel_rfl))⟩
  f18 := ⟨(Tryd.f86).name, by decide, Tryd.func86.trans (congrArg some (by kernel_rfl))⟩
  f19 := Tryd.func87.trans (congrArg some (by kernel_rfl))
  f20 := Tryd.func88.trans (congrArg some (by kernel_rfl))
  f30 := ⟨(Tryd.f89).name, by decide, Tryd.func89.trans (congrArg some (by kernel_rfl))⟩
  f31 := Tryd.func90.trans (congrArg some (by kernel_rfl))
  f32 := Tryd.func91.trans (congrArg some (by kernel_rfl))
  f33 := ⟨(Tryd.f92).name, by decide, Tryd.func92.trans (congrArg some (by kernel_rfl))⟩
  f34 := ⟨(Tryd.f93).name, by decide, Tryd.func93.trans (congrArg some (by kernel_rfl))⟩
  f35 := ⟨(Tryd.f94).name, by decide, Tryd.func94.trans (congrArg some (by kernel_rfl))⟩
  f40 := ⟨(Tryd.f95).name, by decide, Tryd.func95.trans (congrArg some (by kernel_rfl))⟩
  t0 := by kernel_rfl
  a0 := fun w => by kernel_rfl
  z0 := fun w => by kernel_rfl
  v0 := fun w => by kernel_rfl
  t3 := by kernel_rfl
  a3 := fun w => by kernel_rfl
  z3 := fun w => by kernel_rfl
  v3 := fun w => by kernel_rfl
  t4 := by kernel_rfl
  a4 := fun w => by kernel_rfl
  z4 := fun w => by kernel_rfl
  v4 := fun w => by kernel_rfl
  t5 := by kernel_rfl
  a5 := fun w => by kernel_rfl
  z5 := fun w => by kernel_rfl
  v5 := fun w => by kernel_rfl
  t9 := by kernel_rfl
  a9 := fun w => by kernel_rfl
  z9 := fun w => by kernel_rfl
  v9 := fun w => by kernel_rfl
  t22 := by kernel_rfl
  a22 := fun w => by kernel_rfl
  z22 := fun w => by kernel_rfl
  v22 := fun w => by kernel_rfl
  t23 := by kernel_rfl
  a23 := fun w => by kernel_rfl
  z23 := fun w => by kernel_rfl
  v23 := fun w => by kernel_rfl
  t25 := by kernel_rfl
  a25 := fun w => by kernel_rfl
  z25 := fun w => by kernel_rfl
  v25 := fun w => by kernel_rfl
  t32 := by kernel_rfl
  a32 := fun w => by kernel_rfl
  z32 := fun w => by kernel_rfl
  v32 := fun w => by kernel_rfl
  t35 := by kernel_rfl
  a35 := fun w => by kernel_rfl
  z35 := fun w => by kernel_rfl
  v35 := fun w => by kernel_rfl
  t36 := by kernel_rfl
  a36 := fun w => by kernel_rfl
  z36 := fun w => by kernel_rfl
  v36 := fun w => by kernel_rfl
  t41 := by kernel_rfl
  a41 := fun w => by kernel_rfl
  z41 := fun w => by kernel_rfl
  v41 := fun w => by kernel_rfl
  t44 := by kernel_rfl
  a44 := fun w => by kernel_rfl
  z44 := fun w => by kernel_rfl
  v44 := fun w => by kernel_rfl
  t46 := by kernel_rfl
  a46 := fun w => by kernel_rfl
  z46 := fun w => by kernel_rfl
  v46 := fun w => by kernel_rfl
  t53 := by kernel_rfl
  a53 := fun w => by kernel_rfl
  z53 := fun w => by kernel_rfl
  v53 := fun w => by kernel_rfl
  t57 := by kernel_rfl
  a57 := fun w => by kernel_rfl
  z57 := fun w => by kernel_rfl
  v57 := fun w => by kernel_rfl
  t63 := by kernel_rfl
  a63 := fun w => by kernel_rfl
  z63 := fun w => by kernel_rfl
  v63 := fun w => by kernel_rfl
  t64 := by kernel_rfl
  a64 := fun w => by kernel_rfl
  z64 := fun w => by kernel_rfl
  v64 := fun w => by kernel_rfl
theorem sortsO (m : Nat) : AnyZI.SortsIn Tryd.prog renS Fence.wide m :=
  ⟨fun blk off cap ss W hH hblk hsz => callsIn_wide.2 (AnyM.slices_Sort_int laysO blk off cap ss W hH hblk hsz),
   fun p cap W => callsIn_wide.2 (AnyM.slices_Sort_int_none laysO p cap W)⟩
abbrev fKeys : Nat := 70
abbrev fKeys1 : Nat := 74
theorem keys_calls (mb : Option Nat) (W : World) : Calls Tryd.prog 70 #[.map mb] W fun e w' => e = .returned (.func (.func 74) #[] #[.pointer (some ⟨W.heap.size, 0, none⟩)]) ∧ w' = W.alloc (.cells #[.map mb] 87) :=
  (callsIn_wide (n := 5)).1 (AnyZI.keys_in laysK Fence.wide 5 trivial rfl mb W)
/-- The map's keys are those of the sectors that have writes. -/
theorem dk_keys {w : World} {gm n : Nat} {D : AD} {M : DataW Value} (hM : w.ownsMap Tryd.prog 3 RV gm n M) (h1 : ∀ i : Nat, Maps.has M (.int .i64 (i : Int)) = decide (0 < (D.wr i).length)) (h2 : ∀ x : Int, Maps.has M (.int .i64 x) = true → 0 ≤ x) (hok : D.Ok) :
    (D.keys.map fun i : Nat => (i : Int)).Perm (intKeys M) ∧ Maps.size M = D.keys.length := by
  obtain ⟨es, hD, hpw, _⟩ := hM.entries keyI
  obtain ⟨es', hD', hko⟩ := hM.keysOf
  obtain rfl : es = es' := by rw [hD] at hD'; simpa using hD'
  subst hD
  have hp : (D.keys.map fun i : Nat => (i : Int)).Perm (intKeys (.map es)) := by
    refine perm_intKeys hpw (fun p hp => ?_) ?_ (fun x => ?_)
    · obtain ⟨v, hv⟩ := hko p hp
      obtain ⟨x, _, hx, _⟩ := Maps.keyOf_i64 Tryd.underlying3 hv
      exact ⟨x, hx⟩
    · exact List.pairwise_map.2 (D.keys_nodup.imp fun h e => h (by omega))
    · rw [List.mem_map]
      constructor
      · rintro ⟨i, hi, rfl⟩
        rw [h1 i]
        exact (List.mem_filter.1 hi).2
      · intro hx
        have h0 := h2 x hx
        obtain ⟨i, rfl⟩ := Int.eq_ofNat_of_zero_le h0
        have hi := h1 i
        rw [hx] at hi
        refine ⟨i, List.mem_filter.2 ⟨?_, hi.symm⟩, rfl⟩
        rw [List.mem_range]
        by_cases hl : i < D.la.length
        · exact hl
        · rw [hok.out i (by omega)] at hi
          simp at hi
  refine ⟨hp, ?_⟩
  have := hp.length_eq
  rw [List.length_map] at this
  rw [this]
  simp [intKeys, Maps.size]
theorem keys_le {D : AD} (hok : D.Ok) : D.keys.length ≤ 65536 := by
  have h1 : D.keys.length ≤ (List.range D.la.length).length := List.length_filter_le _ _
  rw [List.length_range] at h1
  have := hok.hi
  omega
theorem keys_merge {D : AD} {ss : List Int} (h : ss.Perm (D.keys.map fun i : Nat => (i : Int))) : ss.mergeSort (fun x y => decide (x ≤ y)) = D.keys.map fun i : Nat => (i : Int) := by
  have e := mergeSort_of_perm_i h
  refine e.trans (List.mergeSort_of_pairwise ?_)
  refine List.pairwise_map.2 (D.keys_sorted.imp fun {a b} h => ?_)
  simp only [leI, decide_eq_true_eq]
  omega
theorem sorted_calls {w : World} {p gl gm : Nat} {V : Nat → Value} {D : AD} (h : Dk w p gl gm V D) :
    Calls Tryd.prog 69 #[.func (.func 74) #[] #[.pointer (some ⟨w.heap.size, 0, none⟩)]] (w.alloc (.cells #[.map (some gm)] 87)) fun e w' =>
      ∃ v, e = .returned v ∧ w'.ownsRow w.heap.size 3 1 v D.keys.length (D.keys.map fun i : Nat => .int .i64 (i : Int)) ∧ Below w.heap.size w w' := by
  obtain ⟨M, hM, h2, h3⟩ := h.map
  have hlt := hM.lt
  obtain ⟨hp, hsz⟩ := dk_keys hM (fun i => (h2 i).2) h3 h.ok
  have hle := keys_le h.ok
  have hM1 : (w.alloc (.cells #[.map (some gm)] 87)).ownsMap Tryd.prog 3 RV gm D.wt.toNat M := by
    obtain ⟨es, clock, hb, Ft, hs, hD⟩ := hM
    exact ⟨es, clock, (Below.heap_alloc _ _ gm hlt).trans hb, Ft, hs, hD⟩
  have hseq : SeqGives Fence.wide 2 Tryd.prog 74 #[.pointer (some ⟨w.heap.size, 0, none⟩)] encZ (fun ss => ss.Perm (intKeys M)) (Maps.size M) (w.alloc (.cells #[.map (some gm)] 87)) :=
    AnyZI.keys_gives (ρ := renK) { laysK with } Fence.wide _ trivial rfl (by omega) w.heap.size gm D.wt.toNat M _ (by simp) (by simp) hM1
  have cS := AnyZI.sorted_in laysS Fence.wide 5 trivial trivial trivial trivial rfl (by omega) (sortsO _) (enters_of Tryd.func73 (by kernel_rfl) rfl) 74 #[.pointer (some ⟨w.heap.size, 0, none⟩)] trivial (enters_of Tryd.func74 (by kernel_rfl) rfl) _ _ (by rw [hsz]; unfold maxLen; omega) (by rw [hsz]; omega) _ hseq
  refine ((callsIn_wide (n := 5)).1 cS).mono ?_
  rintro e w' ⟨v, ss, rfl, hS, hrow, _, hb⟩
  have hss := hS.trans hp.symm
  have hl : ss.length = D.keys.length := by have := hss.length_eq; rwa [List.length_map] at this
  rw [keys_merge hss, hl, List.map_map] at hrow
  refine ⟨v, rfl, ownsRow_base_a hrow (by simp), ((Below.refl _ w).alloc (Nat.le_refl _) _).trans (hb.mono (by simp))⟩
end Go.Proofs.YthhjlopgpmaokabDoor

namespace Go.Proofs.YthhjlopgpmaokabDoor
open Go.RowKit Go.Maps

/-- A sector that lasts is written. -/
theorem Dk.put {w : World} {p gl gm i : Nat} {V : Nat → Value} {D : AD} {s : List Int} (h : Dk w p gl gm V D) (hi : i < D.la.length) (hs : IsSec s) : Dk (w.setCells gl (i * 512) (u8V s)) p gl gm V { D with la := D.la.set i s } := by
  have hg := grown_setCells w gl (i * 512) (u8V s)
  have hl : (D.la.set i s).length = D.la.length := List.length_set
  obtain ⟨M, hM, h2⟩ := h.map
  have hok := h.ok
  refine ⟨⟨by rw [hl]; exact hok.lo, by rw [hl]; exact hok.hi, fun t ht => ?_, hok.wrs, fun j hj => hok.out j (by rw [hl] at hj; exact hj)⟩, ?_, ?_, ⟨M, hM.kept hg (by simp only [ne_eq, Option.some.injEq]; exact fun e => h.gl_gm e.symm), h2⟩, fun j => (h.row j).kept hg (Or.inr (h.low j)), h.own, h.low⟩
  · rcases List.mem_or_eq_of_mem_set ht with ht | ht
    · exact hok.las t ht
    · rw [ht]; exact hs
  · simp only [hl]
    exact h.blk.keep (hg.block p h.blk.lt (by simp only [ne_eq, Option.some.injEq]; exact h.p_gl))
  · have := owns_set h.las hok.las rfl hi hs
    simp only [hl]
    exact this
theorem Dk.there {w : World} {p gl gm i : Nat} {V : Nat → Value} {D : AD} (h : Dk w p gl gm V D) (hi : i < D.la.length) : w.there gl (i * 512) 512 := owns_there h.las hi
theorem drew_setCells (g : Nat) : ∀ (vs : List Value) (o : Nat) (w : World), w.drew.setCells g o vs = (w.setCells g o vs).drew
  | [], _, _ => rfl
  | v :: r, o, w => by
    rw [World.setCells, World.setCells, ← drew_setCells g r]
    rfl
theorem Dk.drew {w : World} {p gl gm : Nat} {V : Nat → Value} {D : AD} (h : Dk w p gl gm V D) : Dk w.drew p gl gm V D := h.below (Below.drew (Below.refl _ _))
def laidD (xss : List (List Int)) (n k : Nat) : AD := ⟨xss.take k ++ List.replicate (n - k) zsec, fun _ => [], 0, 0, 0⟩
theorem laidD_len {xss : List (List Int)} {n k : Nat} (hn : n = xss.length) (hk : k ≤ n) : (laidD xss n k).la.length = n := by simp [laidD]; omega
theorem laidD_step {xss : List (List Int)} {n k : Nat} (hn : n = xss.length) (hk : k < n) : { laidD xss n k with la := (laidD xss n k).la.set k (xss.getD k []) } = laidD xss n (k + 1) := by
  have h : (laidD xss n k).la.set k (xss.getD k []) = (laidD xss n (k + 1)).la := by
    unfold laidD
    have hkx : k < xss.length := by omega
    have h1 : (xss.take k).length = k := by simp; omega
    show (xss.take k ++ List.replicate (n - k) zsec).set k (xss.getD k []) = xss.take (k + 1) ++ List.replicate (n - (k + 1)) zsec
    rw [List.set_append_right _ _ (by omega), h1, Nat.sub_self, show n - k = (n - (k + 1)) + 1 by omega, List.replicate_succ, List.set_cons_zero, List.take_succ_eq_append_getElem hkx, List.getD_eq_getElem?_getD, List.getElem?_eq_getElem hkx, List.append_assoc]
    rfl
  rw [h]
  rfl
theorem laidD_all {xss : List (List Int)} {n : Nat} (hn : n = xss.length) : laidD xss n n = ⟨xss, fun _ => [], 0, 0, 0⟩ := by
  unfold laidD
  rw [Nat.sub_self, List.take_of_length_le (by omega)]
  simp
end Go.Proofs.YthhjlopgpmaokabDoor

namespace Go.Proofs.YthhjlopgpmaokabDoor
open Go.RowKit Go.Maps

def zcells : List Value := List.replicate 512 (Value.int .u8 0)
theorem zcells_len : zcells.length = 512 := List.length_replicate
section
variable {ops : Array Oper} {rest : List Oper} {o : Oper} {a : Act} {Q : Exit → Act → World → Prop} {w : World}
theorem alloc_run (W : World) : (Instr.alloc 99 true (.tuple #[])).run Tryd.prog W = .ok (.pointer (some ⟨W.heap.size, 0, none⟩)) (W.alloc (.cells zcells.toArray 99)) := by
  obtain ⟨i0, hi0, hz0, hz1, hz2⟩ := info_parts infoS
  have hzero : (zeroValue 99).run Tryd.prog W = .ok (.agg zcells.toArray) W := by
    show (zeroValue 99).run Tryd.prog W = .ok (.agg (List.replicate 512 (Value.int .u8 0)).toArray) W
    generalize (List.replicate 512 (Value.int .u8 0)).toArray = zz at hz0
    simp [zeroValue, typeInfo, hi0, hz0]
  unfold Instr.alloc
  rw [Sem.run_bind, hzero]
  rfl
/-- A new sector of zeros. -/
theorem wpList_allocS (hgd : o.guard = none) (ho : o.op = .alloc 99) (hk : wpList Tryd.prog ops Q rest (a.put o.dst (.pointer (some ⟨w.heap.size, 0, none⟩))) (w.alloc (.cells zcells.toArray 99))) : wpList Tryd.prog ops Q (o :: rest) a w := by
  refine wpList_plain hgd fun K hK => ?_
  unfold Oper.wp execOp
  simp only [ho, Sem.run_bind, alloc_run w, Result.andThen_ok, Sem.run_pure]
  exact hK _ _ hk
end
theorem isB_arrS {w : World} {g : Nat} {s : List Int} (h : Arr w g 99 (u8V s)) (hs : IsSec s) : IsB w (.slice (some ⟨g, 0, none⟩) 512 512) s := by
  refine ⟨bytes_mem hs.2, some ⟨g, 0, none⟩, 512, by rw [hs.1], by rw [hs.1]; exact Nat.le_refl _, by decide, (fun h => by cases h), fun _ => ⟨g, 0, rfl, fun j hj => ?_⟩⟩
  rw [h.cell (0 + j), Nat.zero_add]
  unfold u8V
  rw [List.getElem?_map, List.getElem?_eq_getElem hj, List.getD_eq_getElem?_getD, List.getElem?_eq_getElem hj]
  rfl
/-- An image in memory of its own. -/
structure Img (w : World) (B : Nat) (v : Value) (xss : List (List Int)) : Prop where
  val : ∃ gI us, v = .slice (some ⟨gI, 0, none⟩) xss.length xss.length ∧ B ≤ gI ∧ Arr w gI 48 us ∧ us.length = xss.length ∧ ∀ j, j < xss.length → ∃ g, B ≤ g ∧ us[j]? = some (.slice (some ⟨g, 0, none⟩) 512 512) ∧ Arr w g 99 (u8V (xss.getD j zsec))
  sec : ∀ s ∈ xss, IsSec s
theorem Img.isBB {w : World} {B : Nat} {v : Value} {xss : List (List Int)} (h : Img w B v xss) (hl : xss.length ≤ 65536) : IsBB w v xss := by
  obtain ⟨gI, us, rfl, _, hA, _, hj⟩ := h.val
  refine ⟨some ⟨gI, 0, none⟩, xss.length, rfl, Nat.le_refl _, by omega, fun _ => ⟨gI, 0, rfl, fun j hjl => ?_⟩⟩
  obtain ⟨g, _, hu, hg⟩ := hj j hjl
  refine ⟨_, by rw [hA.cell, Nat.zero_add]; exact hu, ?_⟩
  have e : xss.getD j zsec = xss.getD j [] := by rw [List.getD_eq_getElem?_getD, List.getD_eq_getElem?_getD, List.getElem?_eq_getElem hjl]; rfl
  rw [← e]
  exact isB_arrS hg (by rw [List.getD_eq_getElem?_getD, List.getElem?_eq_getElem hjl]; exact h.sec _ (List.getElem_mem hjl))
theorem Img.up {F : Nat → Prop} {w w' : World} {B : Nat} {v : Value} {xss : List (List Int)} (h : Img w B v xss) (hu : Up F w w') (hF : ∀ b, F b → b < B ∨ w.heap.size ≤ b) : Img w' B v xss := by
  obtain ⟨gI, us, rfl, hB, hA, hl, hj⟩ := h.val
  refine ⟨⟨gI, us, rfl, hB, hA.up hu (fun hf => by have := hF gI hf; have := hA.lt; omega), hl, fun j hjl => ?_⟩, h.sec⟩
  obtain ⟨g, hBg, hus, hg⟩ := hj j hjl
  exact ⟨g, hBg, hus, hg.up hu (fun hf => by have := hF g hf; have := hg.lt; omega)⟩
theorem made_one (z : Value) (n : Nat) : madeCells #[z] n = (List.replicate n z).toArray := by
  apply Array.ext_getElem?
  intro j
  by_cases hj : j < n
  · simp [madeCells, hj, Nat.mod_one]
  · simp [madeCells, hj]
theorem infoBy : (Tryd.prog.info? 48).map (fun i => (i.zero, i.size, i.bytes)) = some (some (.slice none 0 0), 1, 24) := by kernel_rfl
theorem arr_full {w : World} {base g n : Nat} {t : TypeId} {xs : List Value} (h : w.ownsRow base t 1 (.slice (some ⟨g, 0, none⟩) n n) n xs) : Arr w g t xs ∧ base ≤ g := by
  rcases h.2 with ⟨hv, _⟩ | ⟨g', cap, cur, hv, hb, hg, _, _, hs, ht⟩
  · cases hv
  · injection hv with e1 e2 e3
    injection e1 with e1
    injection e1 with e1
    subst e1 e3
    refine ⟨?_, hb⟩
    unfold Arr
    rw [hg, ← ht, List.take_of_length_le (by simp; omega)]
theorem set_at {us : List Value} {k n : Nat} (hl : us.length = n) (hk : k < n) (x : Value) : ∀ j, (us.set k x)[j]? = if j = k then some x else us[j]? := by
  intro j
  by_cases e : j = k
  · subst e; rw [List.getElem?_set_self (by omega), if_pos rfl]
  · rw [List.getElem?_set_ne (by omega), if_neg e]
end Go.Proofs.YthhjlopgpmaokabDoor
