/- kept and sameAll of WireOwn. -/
import Derived.Test.YtmfpkoegpoboiabDoorAnswers
namespace Go.Proofs.YtmfpkoegpoboiabDoor
open Go.RowKit

/-- A list of byte strings of the call's own. -/
def Was (w : World) (B : Nat) (v : Value) (X : Nat → List Int) (n : Nat) : Prop := ∃ ks : List Value, ks.length = n ∧ Row w B 23 v ks ∧ ∀ k, k < n → ∃ u, ks[k]? = some u ∧ Own8 w B u (X k)
theorem Own8.outs {w w' : World} {B b S : Nat} {v : Value} {xs : List Int} (h : Own8 w b v xs) (ho : Out B S w w') (hd : S ≤ b) : Own8 w' b v xs := (h.row.out ho fun k hk => Or.inr (Nat.le_trans hd (h.1.lt k hk).1)).own8 h.2
theorem Was.outs {w w' : World} {B b S n : Nat} {v : Value} {X : Nat → List Int} (h : Was w b v X n) (ho : Out B S w w') (hd : S ≤ b) : Was w' b v X n := by
  obtain ⟨ks, h1, h2, h3⟩ := h
  refine ⟨ks, h1, h2.out ho fun k hk => Or.inr (Nat.le_trans hd (h2.lt k hk).1), fun k hk => ?_⟩
  obtain ⟨u, hu, ho2⟩ := h3 k hk
  exact ⟨u, hu, ho2.outs ho hd⟩
theorem Was.below {w w' : World} {b n : Nat} {v : Value} {X : Nat → List Int} (h : Was w b v X n) (ho : Below w.heap.size w w') : Was w' b v X n := h.outs (Out.of_below (B := 0) (S := 0) ho) (Nat.zero_le _)
theorem below_allocs {W w' : World} {o : Obj} (h : Below (W.alloc o).heap.size (W.alloc o) w') : Below W.heap.size W w' := by
  have h1 : Below W.heap.size W (W.alloc o) := (Below.refl _ _).alloc (Nat.le_refl _) _
  exact below_aft h1 h
theorem join_one {W : World} {u : Value} {xs : List Int} (h : IsB W u xs) (hl : xs.length ≤ 140737488355328) :
    Calls Tryd.prog 16 #[.slice (some ⟨W.heap.size, 0, none⟩) 1 1] (W.alloc (.cells #[u] 23)) fun e w' => ∃ a n c, e = .returned (.slice a n c) ∧ Own8 w' W.heap.size (.slice a n c) xs ∧ Below W.heap.size W w' := by
  have h1 : Below W.heap.size W (W.alloc (.cells #[u] 23)) := (Below.refl _ _).alloc (Nat.le_refl _) _
  refine (join_in W.heap.size 0 1 1 [xs] (W.alloc (.cells #[u] 23)) rfl (Nat.le_refl _) (by decide) (by simpa using hl) ?_).mono ?_
  · intro j hj
    obtain rfl : j = 0 := by omega
    refine ⟨u, ?_, h.below h1⟩
    have := cell_one_new W u 23 0 u rfl
    rwa [Addr.add_lit] at this
  · rintro e w' ⟨v, rfl, ho, hb⟩
    have ho2 : Own8 w' (W.alloc (.cells #[u] 23)).heap.size v xs := ⟨by simpa using ho, h.mem⟩
    obtain ⟨a, n, c, rfl⟩ := ho2.isB.shape
    exact ⟨a, n, c, rfl, ho2.mono h1.size, below_allocs hb⟩
set_option maxRecDepth 100000 in
set_option maxHeartbeats 4000000 in
theorem kept_calls {w : World} {B S gl n cl : Nat} {us : List Value} {U : Nat → Value} {X : Nat → List Int} (hn : n ≤ 1000) (hus : us.length = n) (hU : ∀ k, k < n → us[k]? = some (U k)) (hX : ∀ k, k < n → (X k).length ≤ 140737488355000 ∧ ∀ x ∈ X k, 0 ≤ x ∧ x ≤ 255)
    (hl : Row w B 23 (.slice (some ⟨gl, 0, none⟩) n cl) us) (hR : Lines w B S 5 U (fun k => (X k).map (Value.int .u8)) n) :
    Calls Tryd.prog 19 #[.slice (some ⟨gl, 0, none⟩) n cl] w fun e w' => ∃ vk, e = .returned vk ∧ Was w' w.heap.size vk X n ∧ Below w.heap.size w w' := by
  obtain ⟨i0, hi, hz0, hz1, hz2⟩ := info_parts info23
  have HC : Hid (∀ W, Below w.heap.size w W → ∀ k, k < n → ∃ a m c, W.cell? ⟨gl, k, none⟩ = some (.slice a m c) ∧ IsB W (.slice a m c) (X k) ∧ (X k).length ≤ 140737488355000) := fun W hW k hk => by
    have ho := (hR.row k hk).own8 (hX k hk).2
    obtain ⟨a, m, c, hv⟩ := ho.isB.shape
    refine ⟨a, m, c, ?_, by rw [← hv]; exact ho.isB.below hW, (hX k hk).1⟩
    rw [hW.cell (p := ⟨gl, k, none⟩) (hl.lt gl rfl).2, hl.cellAt (by rw [hus]; exact hk), hU k hk, hv]
  clear hR hl hX hU hus
  go_enter Tryd.func19, Tryd.ntmps19
  go_wp2
  go_loopw [3, 4] (fun kv iv wr => ∃ (i : Nat), i ≤ n ∧ iv = .int .i64 (i : Int) ∧ Was wr w.heap.size kv X i ∧ Below w.heap.size w wr) (fun _ i _ => n - (intOf i).toNat)
  case atStart => exact ⟨0, by omega, rfl, ⟨[], rfl, Row.nil _ _ _, fun k hk => by omega⟩, Below.refl _ _⟩
  case round =>
    obtain ⟨i, hin, rfl, ⟨ks, hks, hkr, hko⟩, hb⟩ := hrel
    by_cases hlt : i < n
    · obtain ⟨a, m, c, hc, hI, hXl⟩ := unhide HC wr hb i hlt
      have HJ : Hid (∀ W, Below wr.heap.size wr W → Calls Tryd.prog 16 #[.slice (some ⟨W.heap.size, 0, none⟩) 1 1] (W.alloc (.cells #[.slice a m c] 23)) fun e w' => ∃ a n c, e = .returned (.slice a n c) ∧ Own8 w' W.heap.size (.slice a n c) (X i) ∧ Below W.heap.size W w') := fun W hW => join_one (hI.below hW) (by omega)
      have HKS := hide hks
      have HKO := hide hko
      have hsz := hb.size
      clear hks hko hI
      go_wp2_with fail
      refine (unhide HJ wr (Below.refl _ _)).mono ?_
      rintro e w1 ⟨a1, n1, c1, rfl, hO1, hb1⟩
      have hkr1 := hkr.grown (below_grown hb1)
      have hsz1 := Nat.le_trans hsz hb1.size
      go_wp2_with (at_builtin; refine wpList_append_own _ rfl _ _ 37 rfl w.heap.size 23 i0 (.slice none 0 0) 1 24 Tryd.underlying37 hi hz0 hz1 hz2 rfl (by decide) _ _ _ rfl (World.ownsRow.alloc hkr1 _) ⟨w1.heap.size, 0, none⟩ 1 1 [.slice a1 n1 c1] rfl rfl (cell_one_new _ _ _) (by intro u hu; simp at hu; subst hu; rfl) (by have := HKS.out; unfold maxLen; omega) (by have := HKS.out; omega) (by simp; omega) ?_; intro v8 w8 hw8 hg8 hnil8)
      have hG8 := (World.grownBy_alloc w1 _ _).trans hg8
      have hkp : ∀ u xs, Own8 w1 w.heap.size u xs → Own8 w8 w.heap.size u xs := fun u xs h => (h.row.kept hG8 (h.row.apart hkr1 (by decide))).own8 h.2
      have hb8 : Below w.heap.size w w8 := (below_aft hb hb1).grown hG8 hsz1 fun k hk => (hkr1.lt k hk).1
      refine ⟨⟨i + 1, by omega, by go_num, ⟨ks ++ [.slice a1 n1 c1], by simp [HKS.out], ?_, fun k hk => ?_⟩, hb8⟩, ?_⟩
      · unfold Row
        rw [List.length_append]
        exact hw8
      · by_cases e : k < i
        · obtain ⟨u, h1, h2⟩ := unhide HKO k e
          exact ⟨u, by rw [List.getElem?_append_left (by have := HKS.out; omega)]; exact h1, hkp _ _ (h2.below hb1)⟩
        · obtain rfl : k = i := by omega
          exact ⟨_, by rw [List.getElem?_append_right (by have := HKS.out; omega), HKS.out, Nat.sub_self]; rfl, hkp _ _ (hO1.mono hsz)⟩
      · simp [intOf]; omega
    · go_wp2
      go_ret
      obtain rfl : i = n := by omega
      exact ⟨_, rfl, ⟨ks, hks, hkr, hko⟩, hb⟩

/-- The same lists: what a reads is what b reads. -/
def Reads (w : World) (g : Nat) (X : Nat → List Int) (n : Nat) : Prop := ∀ k, k < n → ∃ a m c, w.cell? ⟨g, k, none⟩ = some (.slice a m c) ∧ IsB w (.slice a m c) (X k)
set_option maxRecDepth 100000 in
set_option maxHeartbeats 4000000 in
theorem sameAll_calls {w : World} {ga gb n ca cb : Nat} {X : Nat → List Int} (hn : n ≤ 1000) (ha : Reads w ga X n) (hb : Reads w gb X n) :
    Calls Tryd.prog 22 #[.slice (some ⟨ga, 0, none⟩) n ca, .slice (some ⟨gb, 0, none⟩) n cb] w fun e w' => e = .returned (.bool true) ∧ Below w.heap.size w w' := by
  have HA : Hid (∀ W, Below w.heap.size w W → Reads W ga X n) := fun W hW k hk => by
    obtain ⟨a, m, c, h1, h2⟩ := ha k hk
    exact ⟨a, m, c, (hW.cell (p := ⟨ga, k, none⟩) (World.block_lt_of_cell? w _ h1)).trans h1, h2.below hW⟩
  have HB : Hid (∀ W, Below w.heap.size w W → Reads W gb X n) := fun W hW k hk => by
    obtain ⟨a, m, c, h1, h2⟩ := hb k hk
    exact ⟨a, m, c, (hW.cell (p := ⟨gb, k, none⟩) (World.block_lt_of_cell? w _ h1)).trans h1, h2.below hW⟩
  clear ha hb
  go_enter Tryd.func22, Tryd.ntmps22
  go_wp2
  go_loopw [5] (fun iv wr => ∃ (i : Nat), i ≤ n ∧ iv = .int .i64 (i : Int) ∧ Below w.heap.size w wr) (fun i _ => n - (intOf i).toNat)
  case atStart => exact ⟨0, by omega, rfl, Below.refl _ _⟩
  case round =>
    obtain ⟨i, hin, rfl, hb⟩ := hrel
    by_cases hlt : i < n
    · obtain ⟨a1, m1, c1, h1, hI1⟩ := unhide HA wr hb i hlt
      obtain ⟨a2, m2, c2, h2, hI2⟩ := unhide HB wr hb i hlt
      have HSS : Hid (∀ W, Below wr.heap.size wr W → Below wr.heap.size wr W ∧ W.cell? ⟨ga, i, none⟩ = some (.slice a1 m1 c1) ∧ W.cell? ⟨gb, i, none⟩ = some (.slice a2 m2 c2)) := fun W hW =>
        ⟨hW, (hW.cell (p := ⟨ga, i, none⟩) (World.block_lt_of_cell? _ _ h1)).trans h1, (hW.cell (p := ⟨gb, i, none⟩) (World.block_lt_of_cell? _ _ h2)).trans h2⟩
      have HSM : Hid (∀ W, Below wr.heap.size wr W → Calls Tryd.prog 23 #[.slice a1 m1 c1, .slice a2 m2 c2] W fun e w' => e = .returned (.bool true) ∧ w' = W) := fun W hW => by
        have := same_calls (hI1.below hW) (hI2.below hW)
        rwa [decide_eq_true rfl] at this
      clear hI1 hI2
      go_wp2_with fail
      focus (go_region_held3 (fun W => Below wr.heap.size wr W ∧ W.cell? ⟨ga, i, none⟩ = some (.slice a1 m1 c1) ∧ W.cell? ⟨gb, i, none⟩ = some (.slice a2 m2 c2))
        ((refine unhide HSS _ ?_; repeat (first | assumption | exact Below.refl _ _ | refine Below.drew ?_)))
        (first
          | (go_at_call 23; refine (unhide HSM _ (Below.drew (Below.refl _ _))).mono ?_; rintro e w2 ⟨rfl, hw2⟩; obtain rfl := hw2.symm)))
      go_wp2
      go_roundw
      case rel => exact ⟨i + 1, by omega, by go_num, hb.drew⟩
      case measure => simp [intOf]; omega
    · go_wp2
      go_ret
      exact ⟨rfl, hb⟩
theorem Was.reads {w : World} {b g n c : Nat} {X : Nat → List Int} (h : Was w b (.slice (some ⟨g, 0, none⟩) n c) X n) : Reads w g X n := by
  obtain ⟨ks, h1, h2, h3⟩ := h
  intro k hk
  obtain ⟨u, hu, ho⟩ := h3 k hk
  obtain ⟨a, m, c, rfl⟩ := ho.isB.shape
  exact ⟨a, m, c, by rw [h2.cellAt (by omega), hu], ho.isB⟩
theorem Was.head {w : World} {b n : Nat} {v : Value} {X : Nat → List Int} (h : Was w b v X n) (hn : 0 < n) : ∃ g c, v = .slice (some ⟨g, 0, none⟩) n c := by
  obtain ⟨ks, h1, h2, _⟩ := h
  obtain ⟨g, c, hv, _⟩ := h2.head (by omega)
  rw [h1] at hv
  exact ⟨g, c, hv⟩
theorem Lines.reads {w : World} {B B2 S gl n cl : Nat} {us : List Value} {U : Nat → Value} {X : Nat → List Int} (hR : Lines w B S 5 U (fun k => (X k).map (Value.int .u8)) n) (hl : Row w B2 23 (.slice (some ⟨gl, 0, none⟩) n cl) us) (hus : us.length = n) (hU : ∀ k, k < n → us[k]? = some (U k)) (hX : ∀ k, k < n → ∀ x ∈ X k, 0 ≤ x ∧ x ≤ 255) : Reads w gl X n := fun k hk => by
  have ho := (hR.row k hk).own8 (hX k hk)
  obtain ⟨a, m, c, hv⟩ := ho.isB.shape
  exact ⟨a, m, c, by rw [hl.cellAt (by rw [hus]; exact hk), hU k hk, hv], by rw [← hv]; exact ho.isB⟩
end Go.Proofs.YtmfpkoegpoboiabDoor
