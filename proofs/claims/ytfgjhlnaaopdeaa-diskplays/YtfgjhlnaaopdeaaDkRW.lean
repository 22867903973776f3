/- The document's Written: the sectors that have writes, rising. -/
import Derived.Test.YtfgjhlnaaopdeaaDkRF
import Derived.Test.YtfgjhlnaaopdeaaInts
import Derived.Deep.QuietTactic
import Derived.BigQuiet
namespace Go.Proofs.Ytfgjhlnaaopdeaa
open Go.RowKit Go.Maps

theorem infoZ : (Try.prog.info? 3).map (fun i => (i.zero, i.size, i.bytes)) = some (some (.int .i64 0), 1, 8) := by kernel_rfl
/-- A row of numbers of the call's own. -/
def OwnI (w : World) (B : Nat) (v : Value) (ks : List Int) : Prop := w.ownsRow B 3 1 v ks.length (ks.map (Value.int .i64))
theorem OwnI.nil (w : World) (B : Nat) : OwnI w B (.slice none 0 0) [] := World.ownsRow_nil _ _ _ _
theorem OwnI.below {w w' : World} {B : Nat} {v : Value} {ks : List Int} (h : OwnI w B v ks) (hb : Below w.heap.size w w') : OwnI w' B v ks := owns_below h hb
theorem OwnI.shape {w : World} {B : Nat} {v : Value} {ks : List Int} (h : OwnI w B v ks) : ∃ a c, v = .slice a ks.length c ∧ (0 < ks.length → ∃ g, a = some ⟨g, 0, none⟩ ∧ B ≤ g ∧ g < w.heap.size ∧ ks.length ≤ c ∧ c ≤ 9223372036854775807 ∧ ∀ j, j < ks.length → w.cell? ⟨g, j, none⟩ = some (.int .i64 (ks.getD j 0))) := by
  rcases h.2 with ⟨hv, h0⟩ | ⟨g, cap, cur, hv, hb, hg, hle, hm, hs, ht⟩
  · exact ⟨none, 0, by rw [hv, h0], fun hp => by omega⟩
  · refine ⟨_, cap, hv, fun _ => ⟨g, rfl, hb, (Array.getElem?_eq_some_iff.1 hg).1, hle, by simpa [maxLen] using hm, fun j hj => ?_⟩⟩
    have h2 : w.ownsRow B 3 1 (.slice (some ⟨g, 0, none⟩) ks.length cap) ks.length (ks.map (Value.int .i64)) := by rw [← hv]; exact h
    have := h2.cells (g := g) rfl j (.int .i64 (ks.getD j 0)) (by rw [List.getElem?_map, List.getElem?_eq_getElem hj, List.getD_eq_getElem?_getD, List.getElem?_eq_getElem hj]; rfl)
    rw [Addr.add_lit, Nat.zero_add] at this
    exact this
section
variable {ops : Array Oper} {rest : List Oper} {o : Oper} {a : Act} {Q : Exit → Act → World → Prop} {w : World}
set_option maxRecDepth 100000 in
theorem wpList_appZ (hgd : o.guard = none) (x y : Operand) (ho : o.op = .call { callee := .builtin .append, args := #[x, y], argTypes := #[28, 28] }) {B g : Nat} {v : Value} {ks : List Int} {z : Int} (hx : a.eval x = v) (hown : OwnI w B v ks) (hy : a.eval y = .slice (some ⟨g, 0, none⟩) 1 1)
    (hc : w.cell? ⟨g, 0, none⟩ = some (.int .i64 z)) (hl : ks.length ≤ 1099511627776) (hB : B ≤ w.heap.size)
    (hk : ∀ v' w', OwnI w' B v' (ks ++ [z]) → w.grownBy w' v.ownBlock → (v.ownBlock = none ∨ ∃ b, v.ownBlock = some b ∧ B ≤ b) → wpList Try.prog ops Q rest (a.put o.dst v') w') : wpList Try.prog ops Q (o :: rest) a w := by
  obtain ⟨i0, hi, hz0, hz1, hz2⟩ := info_parts infoZ
  have hob : v.ownBlock = none ∨ ∃ b, v.ownBlock = some b ∧ B ≤ b := by
    cases hv : v.ownBlock with
    | none => exact Or.inl rfl
    | some b => exact Or.inr ⟨b, rfl, (hown.lt b hv).1⟩
  refine wpList_plain hgd fun K hK => wp_append_own w x y 28 ho B 3 i0 _ 1 8 Try.underlying28 hi hz0 hz1 hz2 rfl (by decide) v ks.length _ hx hown ⟨g, 0, none⟩ 1 1 [.int .i64 z] hy rfl (fun j u hu => ?_) (fun u hu => ?_) (by unfold maxLen; omega) (by omega) hB ?_
  · cases j with
    | zero =>
      injection hu with hu
      subst hu
      exact hc
    | succ j => simp at hu
  · rw [List.mem_singleton.1 hu]; rfl
  · intro v' w' r1 r2 _
    refine hK _ _ (hk v' w' ?_ r2 hob)
    unfold OwnI
    rw [List.length_append, List.length_singleton, List.map_append]
    exact r1
end
theorem take_snoc2 {L : Ats} {k : Nat} (hk : k < L.length) : L.take (k + 1) = L.take k ++ [L.getD k dA] := by rw [List.take_succ_eq_append_getElem hk, getD_eq hk]
/-- Rising numbers, those of the first k writes. -/
structure Rises (ws : Ats) (k : Nat) (ks : List Int) : Prop where
  up : ks.Pairwise (· < ·)
  mem : ∀ x, x ∈ ks ↔ ∃ a ∈ ws.take k, a.1 = x
  len : ks.length ≤ k
theorem Rises.zero (ws : Ats) : Rises ws 0 [] := ⟨List.Pairwise.nil, fun x => by simp, Nat.le_refl _⟩
theorem Rises.same {ws : Ats} {k : Nat} {ks : List Int} (h : Rises ws k ks) (hk : k < ws.length) (hm : (ws.getD k dA).1 ∈ ks) : Rises ws (k + 1) ks := by
  refine ⟨h.up, fun x => ?_, by have := h.len; omega⟩
  rw [take_snoc2 hk, h.mem x]
  constructor
  · rintro ⟨a, ha, rfl⟩; exact ⟨a, List.mem_append.2 (Or.inl ha), rfl⟩
  · rintro ⟨a, ha, rfl⟩
    rcases List.mem_append.1 ha with ha | ha
    · exact ⟨a, ha, rfl⟩
    · rw [List.mem_singleton.1 ha]; exact (h.mem _).1 hm
theorem Rises.more {ws : Ats} {k j : Nat} {ks : List Int} (h : Rises ws k ks) (hk : k < ws.length) (hj : j ≤ ks.length) (h1 : ∀ x ∈ ks.take j, x ≤ (ws.getD k dA).1) (h2 : ∀ x ∈ ks.drop j, (ws.getD k dA).1 < x) (hn : (ws.getD k dA).1 ∉ ks.take j) : Rises ws (k + 1) (ks.take j ++ [(ws.getD k dA).1] ++ ks.drop j) := by
  generalize hy : (ws.getD k dA).1 = y at *
  refine ⟨?_, fun x => ?_, ?_⟩
  · have hup : (ks.take j ++ ks.drop j).Pairwise (· < ·) := by rw [List.take_append_drop]; exact h.up
    obtain ⟨u1, u2, u3⟩ := List.pairwise_append.1 hup
    refine List.pairwise_append.2 ⟨List.pairwise_append.2 ⟨u1, by simp, fun a ha b hb => ?_⟩, u2, fun a ha b hb => ?_⟩
    · rw [List.mem_singleton.1 hb]
      have := h1 a ha
      have hne : a ≠ y := fun e => hn (e ▸ ha)
      omega
    · rcases List.mem_append.1 ha with ha | ha
      · exact u3 a ha b hb
      · rw [List.mem_singleton.1 ha]; exact h2 b hb
  · rw [take_snoc2 hk]
    have hks : x ∈ ks ↔ x ∈ ks.take j ∨ x ∈ ks.drop j := by rw [← List.mem_append, List.take_append_drop]
    constructor
    · intro hx
      rcases List.mem_append.1 hx with hx | hx
      · rcases List.mem_append.1 hx with hx | hx
        · obtain ⟨a, ha, e⟩ := (h.mem x).1 (hks.2 (Or.inl hx)); exact ⟨a, List.mem_append.2 (Or.inl ha), e⟩
        · exact ⟨ws.getD k dA, List.mem_append.2 (Or.inr (by simp)), by rw [hy, List.mem_singleton.1 hx]⟩
      · obtain ⟨a, ha, e⟩ := (h.mem x).1 (hks.2 (Or.inr hx)); exact ⟨a, List.mem_append.2 (Or.inl ha), e⟩
    · rintro ⟨a, ha, rfl⟩
      rcases List.mem_append.1 ha with ha | ha
      · rcases hks.1 ((h.mem _).2 ⟨a, ha, rfl⟩) with hx | hx
        · exact List.mem_append.2 (Or.inl (List.mem_append.2 (Or.inl hx)))
        · exact List.mem_append.2 (Or.inr hx)
      · rw [List.mem_singleton.1 ha, hy]
        exact List.mem_append.2 (Or.inl (List.mem_append.2 (Or.inr (by simp))))
  · have := h.len
    simp only [List.length_append, List.length_take, List.length_drop, List.length_singleton]
    omega
/-- They are the sectors that have writes. -/
theorem Rises.keys {D : AD} {R : RD} {ks : List Int} (h : Rel D R) (hr : Rises R.wr R.wr.length ks) : ks = D.keys.map fun i : Nat => (i : Int) := by
  have hm : ∀ x, x ∈ ks ↔ x ∈ D.keys.map fun i : Nat => (i : Int) := fun x => by
    rw [hr.mem x, List.take_length, List.mem_map]
    constructor
    · rintro ⟨a, ha, rfl⟩
      have hok := h.wok a ha
      rw [h.n] at hok
      refine ⟨a.1.toNat, List.mem_filter.2 ⟨by rw [List.mem_range]; omega, ?_⟩, by omega⟩
      have e : ((a.1.toNat : Nat) : Int) = a.1 := by omega
      rw [h.wr a.1.toNat (by omega), e]
      have : a.2 ∈ ofN R.wr a.1 := List.mem_map.2 ⟨a, List.mem_filter.2 ⟨ha, by simp⟩, rfl⟩
      simpa using List.length_pos_of_mem this
    · rintro ⟨i, hi, rfl⟩
      obtain ⟨h1, h2⟩ := List.mem_filter.1 hi
      rw [List.mem_range] at h1
      rw [h.wr i h1] at h2
      have h3 : 0 < (ofN R.wr (i : Int)).length := by simpa using h2
      obtain ⟨s, hs⟩ := List.exists_mem_of_length_pos h3
      obtain ⟨a, ha, _⟩ := List.mem_map.1 hs
      obtain ⟨ha1, ha2⟩ := List.mem_filter.1 ha
      exact ⟨a, ha1, by simpa using ha2⟩
  have hs : (D.keys.map fun i : Nat => (i : Int)).Pairwise (· < ·) := List.pairwise_map.2 (D.keys_sorted.imp fun h => by omega)
  have hp : ks.Perm (D.keys.map fun i : Nat => (i : Int)) := (List.perm_ext_iff_of_nodup (hr.up.imp fun h => by omega) (hs.imp fun h => by omega)).2 hm
  exact List.Perm.eq_of_pairwise (le := (· < ·)) (fun a b _ _ h1 h2 => by omega) hr.up hs hp
theorem drop_above {ks : List Int} {j : Nat} {y : Int} (hs : ks.Pairwise (· < ·)) (hj : j = ks.length ∨ (j < ks.length ∧ y < ks.getD j 0)) : ∀ x ∈ ks.drop j, y < x := by
  rcases hj with hj | ⟨hj, hy⟩
  · rw [hj, List.drop_length]; intro x hx; simp at hx
  · intro x hx
    rw [List.drop_eq_getElem_cons hj] at hx
    have e : ks.getD j 0 = ks[j] := by rw [List.getD_eq_getElem?_getD, List.getElem?_eq_getElem hj]; rfl
    rcases List.mem_cons.1 hx with hx | hx
    · rw [hx, ← e]; exact hy
    · have h1 : (ks.drop j).Pairwise (· < ·) := hs.sublist (List.drop_sublist _ _)
      rw [List.drop_eq_getElem_cons hj] at h1
      have := (List.pairwise_cons.1 h1).1 x hx
      omega
theorem drewn_b2 (w : World) (n : Nat) : Below w.heap.size w (w.drewN n) := ⟨rfl, rfl, rfl, Nat.le_refl _, fun _ _ => rfl⟩
theorem takeZ {ks : List Int} {j : Nat} (hj : j < ks.length) : ks.take (j + 1) = ks.take j ++ [ks.getD j 0] := by
  rw [List.take_succ_eq_append_getElem hj, List.getD_eq_getElem?_getD, List.getElem?_eq_getElem hj]; rfl
set_option maxRecDepth 100000 in
set_option maxHeartbeats 4000000 in
theorem written_calls {w : World} {a1 a2 : Option Addr} {n1 n2 c1 c2 : Nat} {n rd wt fl : Int} {ws : Ats} (h : IsAts w (.slice a2 n2 c2) ws) (hl : ws.length ≤ 549755813888) :
    Calls Try.prog 47 #[.agg #[.int .i64 n, .slice a1 n1 c1, .slice a2 n2 c2, .int .i64 rd, .int .i64 wt, .int .i64 fl]] w fun e w' => ∃ v ks, e = .returned v ∧ OwnI w' w.heap.size v ks ∧ Rises ws ws.length ks ∧ Below w.heap.size w w' := by
  obtain ⟨a2', c2', e2, hp⟩ := h.shape
  injection e2 with e2a e2b e2c
  subst e2a e2b e2c
  have HA := hide h
  have HSAME := hide (fun k ks (hr : Rises ws k ks) (hk : k < ws.length) (hm : (ws.getD k dA).1 ∈ ks) => hr.same hk hm)
  have HMORE := hide (fun k j ks (hr : Rises ws k ks) (hk : k < ws.length) (hj : j ≤ ks.length) h1 h2 hn => hr.more (j := j) hk hj h1 h2 hn)
  generalize hm : ws.length = m at *
  have HM := hide hm
  clear hm
  have hX0 := Arr.new w (rdC n a1 n1 c1 a2 m c2 rd wt fl) 36
  have hb0 : Below w.heap.size w (w.alloc (.cells #[.int .i64 n, .slice a1 n1 c1, .slice a2 m c2, .int .i64 rd, .int .i64 wt, .int .i64 fl] 36)) := (Below.refl _ _).alloc (Nat.le_refl _) _
  clear h
  go_enter Try.func47, Try.ntmps47
  go_wp2
  go_loopw [3, 4] (fun lv iv wr => ∃ k : Nat, k ≤ m ∧ iv = .int .i64 (k : Int) ∧ Hid (∃ ks, OwnI wr w.heap.size lv ks ∧ Rises ws k ks) ∧ Hid (Arr wr w.heap.size 36 (rdC n a1 n1 c1 a2 m c2 rd wt fl)) ∧ Hid (Below w.heap.size w wr)) (fun _ iv _ => m - (intOf iv).toNat)
  case atStart => exact ⟨0, by omega, rfl, ⟨[], OwnI.nil _ _, Rises.zero ws⟩, hX0, hb0⟩
  case round =>
    clear hX0 hb0
    obtain ⟨k, hk, rfl, HO, HX, HNX⟩ := hrel
    rename World => w1
    obtain ⟨ks, hown, hris⟩ := HO.out
    clear HO
    have hx2 := HX.out.cell_of (j := 2) rfl
    have hsz := HNX.out.size
    obtain ⟨ka, kc, rfl, hksh⟩ := hown.shape
    by_cases hlt : k < m
    · obtain ⟨g, rfl, hle, hcm⟩ := hp (by omega)
      obtain ⟨z, hc1, hc2, hz⟩ := (HA.out.below HNX.out).elem (j := k) (by rw [HM.out]; exact hlt)
      have hglt : g < w1.heap.size := World.block_lt_of_cell? w1 _ hc1
      have hxlt : w.heap.size < w1.heap.size := HX.out.lt
      have hkl := hris.len
      have HOWN := hide hown
      have HRIS := hide hris
      have HS2 := hide (unhide HSAME k ks hris hlt)
      have HM2 := hide (fun j => unhide HMORE k j ks hris hlt)
      have HUPP := hide hris.up
      have HTK := hide (fun j (hj : j < ks.length) => takeZ hj)
      have HDROP := hide (fun j y => drop_above (j := j) (y := y) hris.up)
      clear hz hc2 hown hris
      generalize hy : (ws.getD k dA).1 = y at *
      have HY := hide hy
      clear hy
      generalize hln : ks.length = ln at *
      have HLN := hide hln
      clear hln
      go_wp2
      go_loopw [5, 6] (fun av bv wr => ∃ (j : Nat) (b : Bool), j ≤ ln ∧ av = .int .i64 (j : Int) ∧ bv = .bool b ∧ Hid ((b = true ↔ y ∈ ks.take j) ∧ ∀ x ∈ ks.take j, x ≤ y) ∧ Hid (Below w1.heap.size w1 wr)) (fun av _ _ => ln - (intOf av).toNat)
      case atStart => exact ⟨0, false, by omega, rfl, rfl, ⟨by simp, by simp⟩, Below.refl _ _⟩
      case round =>
        obtain ⟨j, b, hj, rfl, rfl, HB, HN2⟩ := hrel
        have hsz2 := HN2.out.size
        have hx2' : wr.cell? ⟨w.heap.size, 2, none⟩ = some (.slice (some ⟨g, 0, none⟩) m c2) := (HN2.out.cell (p := ⟨w.heap.size, 2, none⟩) hxlt).trans hx2
        have hc1' : wr.cell? ⟨g, k * 2, none⟩ = some (.int .i64 y) := (HN2.out.cell (p := ⟨g, k * 2, none⟩) hglt).trans hc1
        by_cases hjl : j < ln
        · obtain ⟨gk, rfl, hbk, hgk, hlc, hkm, hkc⟩ := hksh (by omega)
          have hcj : wr.cell? ⟨gk, j, none⟩ = some (.int .i64 (ks.getD j 0)) := (HN2.out.cell (p := ⟨gk, j, none⟩) hgk).trans (hkc j hjl)
          have HTKj := hide (unhide HTK j hjl)
          have HDRj := hide (unhide HDROP j y)
          have HSS : Hid (∀ W, Below wr.heap.size wr W → W.cell? ⟨w.heap.size, 2, none⟩ = some (.slice (some ⟨g, 0, none⟩) m c2) ∧ W.cell? ⟨g, k * 2, none⟩ = some (.int .i64 y) ∧ W.cell? ⟨gk, j, none⟩ = some (.int .i64 (ks.getD j 0))) := fun W hW =>
            ⟨(hW.cell (p := ⟨w.heap.size, 2, none⟩) (Nat.lt_of_lt_of_le hxlt hsz2)).trans hx2', (hW.cell (p := ⟨g, k * 2, none⟩) (Nat.lt_of_lt_of_le hglt hsz2)).trans hc1', (hW.cell (p := ⟨gk, j, none⟩) (Nat.lt_of_lt_of_le hgk hsz2)).trans hcj⟩
          clear hkc
          generalize hxx : ks.getD j 0 = xx at *
          clear hxx
          have hdj : decide ((j : Int) < (ln : Int)) = true := by simpa using hjl
          by_cases hxy : xx ≤ y
          · have hdx : decide (xx ≤ y) = true := by simpa using hxy
            have HB' : Hid (((b || decide (xx = y)) = true ↔ y ∈ ks.take (j + 1)) ∧ ∀ x ∈ ks.take (j + 1), x ≤ y) := by
              refine ⟨?_, fun x hx => ?_⟩
              · rw [HTKj.out, List.mem_append, List.mem_singleton, Bool.or_eq_true, HB.out.1, decide_eq_true_eq]
                exact or_congr Iff.rfl eq_comm
              · rw [HTKj.out] at hx
                rcases List.mem_append.1 hx with hx | hx
                · exact HB.out.2 x hx
                · rw [List.mem_singleton.1 hx]; exact hxy
            clear HTKj HDRj HB
            go_wp2_with fail
            focus (go_region_held3 (fun W => W.cell? ⟨w.heap.size, 2, none⟩ = some (.slice (some ⟨g, 0, none⟩) m c2) ∧ W.cell? ⟨g, k * 2, none⟩ = some (.int .i64 y) ∧ W.cell? ⟨gk, j, none⟩ = some (.int .i64 xx)) ((exact unhide HSS _ (Below.refl _ _).drew)) (fail))
            cases b with
            | true =>
              have HN3 := hide (HN2.out.trans (((Below.refl wr.heap.size wr).drew).mono hsz2))
              go_wp2_with fail
              go_quiet (fail)
              go_wp2
              exact ⟨⟨j + 1, true, by omega, by go_num, rfl, hide (by simpa using HB'.out), HN2.out.trans ((drewn_b2 wr (1 + nq)).mono hsz2)⟩, by simp [intOf]; omega⟩
            | false =>
              go_wp2_with fail
              focus (go_region_held3 (fun W => W.cell? ⟨w.heap.size, 2, none⟩ = some (.slice (some ⟨g, 0, none⟩) m c2) ∧ W.cell? ⟨g, k * 2, none⟩ = some (.int .i64 y) ∧ W.cell? ⟨gk, j, none⟩ = some (.int .i64 xx)) ((exact unhide HSS _ ((Below.refl _ _).drew).drew)) (fail))
              go_wp2
              exact ⟨⟨j + 1, xx == y, by omega, by go_num, rfl, hide (by simpa using HB'.out), HN2.out.drew.drew⟩, by simp [intOf]; omega⟩
          · have hdx : decide (xx ≤ y) = false := by simpa using hxy
            have HDR : Hid (∀ x ∈ ks.drop j, y < x) := unhide HDRj (Or.inr ⟨hjl, by omega⟩)
            have HNW : Hid (Below w1.heap.size w1 wr.drew) := HN2.out.drew
            clear HTKj HDRj
            go_wp2_with fail
            focus (go_region_held3 (fun W => W.cell? ⟨w.heap.size, 2, none⟩ = some (.slice (some ⟨g, 0, none⟩) m c2) ∧ W.cell? ⟨g, k * 2, none⟩ = some (.int .i64 y) ∧ W.cell? ⟨gk, j, none⟩ = some (.int .i64 xx)) ((exact unhide HSS _ (Below.refl _ _).drew)) (fail))
            generalize wr.drew = w2 at *
            clear HSS HN2 hx2' hc1' hcj hsz2
            have hx3 : w2.cell? ⟨w.heap.size, 2, none⟩ = some (.slice (some ⟨g, 0, none⟩) m c2) := (HNW.out.cell (p := ⟨w.heap.size, 2, none⟩) hxlt).trans hx2
            have hc3 : w2.cell? ⟨g, k * 2, none⟩ = some (.int .i64 y) := (HNW.out.cell (p := ⟨g, k * 2, none⟩) hglt).trans hc1
            have hsw2 := HNW.out.size
            have HNW2 : Hid (Below w.heap.size w w2) := HNX.out.trans (HNW.out.mono hsz)
            have HX2 := hide (HX.out.below HNW.out)
            cases b with
            | true =>
              have HR2 := hide (unhide HS2 (List.mem_of_mem_take (HB.out.1.1 rfl)))
              have HO2 := hide (HOWN.out.below HNW.out)
              go_wp2
              go_roundw
              case rel => exact ⟨k + 1, by omega, by go_num, ⟨ks, HO2.out, HR2.out⟩, HX2, HNW2⟩
              case measure => simp [intOf]; omega
            | false =>
              have HR2 : Hid (Rises ws (k + 1) (ks.take j ++ [y] ++ ks.drop j)) := by
                exact unhide HM2 j hj HB.out.2 HDR.out (fun hm => by have := HB.out.1.2 hm; cases this)
              have HCK : Hid (∀ W q, Below w2.heap.size w2 W → q < ln → ∃ gq, (some ⟨gk, 0, none⟩ : Option Addr) = some ⟨gq, 0, none⟩ ∧ ln ≤ kc ∧ kc ≤ 9223372036854775807 ∧ W.cell? ⟨gq, q, none⟩ = some (.int .i64 (ks.getD q 0))) := fun W q hW hq => by
                obtain ⟨gq, h1, _, hgq, h2, h3, hkq⟩ := hksh (by omega)
                exact ⟨gq, h1, h2, h3, (hW.cell (p := ⟨gq, q, none⟩) (Nat.lt_of_lt_of_le hgq hsw2)).trans ((HNW.out.cell (p := ⟨gq, q, none⟩) hgq).trans (hkq q hq))⟩
              have hdj9 : (ks.drop j).take (ln - j) = ks.drop j := List.take_of_length_le (by rw [List.length_drop, HLN.out]; exact Nat.le_refl _)
              have HFIN : Hid (ks.take j ++ [y] ++ (ks.drop j).take (ln - j) = ks.take j ++ [y] ++ ks.drop j) := hide (by rw [hdj9])
              clear hdj9
              have HDT : Hid (∀ q, j ≤ q → q < ln → (ks.drop j).take (q + 1 - j) = (ks.drop j).take (q - j) ++ [ks.getD q 0]) := fun q h1 h2 => by
                have hd : q - j < (ks.drop j).length := by rw [List.length_drop, HLN.out]; omega
                rw [show q + 1 - j = q - j + 1 by omega, takeZ hd]
                congr 2
                rw [List.getD_eq_getElem?_getD, List.getD_eq_getElem?_getD, List.getElem?_drop, show j + (q - j) = q by omega]
              have HLE : Hid (∀ q, (ks.take q).length ≤ 549755813888) := fun q => by rw [List.length_take, HLN.out]; omega
              have HLE2 : Hid (∀ q, (ks.take j ++ [y] ++ (ks.drop j).take q).length ≤ 1099511627776) := fun q => by
                simp only [List.length_append, List.length_take, List.length_drop, List.length_singleton, HLN.out]
                omega
              clear HB HDR hksh HS2 HM2 HDROP HOWN
              go_wp2
              go_loopw [7, 8] (fun mv kv wr => ∃ q : Nat, q ≤ j ∧ kv = .int .i64 (q : Int) ∧ OwnI wr w2.heap.size mv (ks.take q) ∧ Hid (Below w2.heap.size w2 wr)) (fun _ kv _ => j - (intOf kv).toNat)
              case atStart => exact ⟨0, by omega, rfl, by rw [List.take_zero]; exact OwnI.nil _ _, Below.refl _ _⟩
              case round =>
                obtain ⟨q, hq, rfl, hO, HN4⟩ := hrel
                have hsz4 := HN4.out.size
                obtain ⟨pa, pc, rfl, _⟩ := hO.shape
                have hlq := unhide HLE q
                by_cases hqj : q < j
                · obtain ⟨gq, e9, hlc, hkm, hcq⟩ := unhide HCK wr q HN4.out (by omega)
                  cases e9
                  have HTq := hide (unhide HTK q (by omega))
                  have hbn := (Below.refl wr.heap.size wr).alloc (Nat.le_refl _) (.cells #[.int .i64 (ks.getD q 0)] 3)
                  have HOq := hide (hO.below hbn)
                  have hcn : (wr.alloc (.cells #[.int .i64 (ks.getD q 0)] 3)).cell? ⟨wr.heap.size, 0, none⟩ = some (.int .i64 (ks.getD q 0)) := by simp
                  have hszn : w2.heap.size ≤ (wr.alloc (.cells #[.int .i64 (ks.getD q 0)] 3)).heap.size := by simp; omega
                  clear hO
                  generalize hlt4 : (ks.take q).length = nq at *
                  have HLQ := hide hlt4
                  clear hlt4
                  generalize ks.getD q 0 = xq at *
                  go_wp2_with (first
                    | (at_builtin; refine wpList_appZ rfl (.tmp 56) (.tmp 61) rfl rfl (unhide HOq) rfl hcn (by rw [HLQ.out]; omega) hszn ?_; intro v9 w9 hr9 hg9 hv9))
                  rw [← HTq.out] at hr9
                  go_roundw
                  case rel => exact ⟨q + 1, by omega, by go_num, hr9, below_app (HN4.out.trans (hbn.mono hsz4)) hg9 hszn hv9⟩
                  case measure => simp [intOf]; omega
                · have hqe : q = j := by omega
                  subst hqe
                  have hbn := (Below.refl wr.heap.size wr).alloc (Nat.le_refl _) (.cells #[.int .i64 y] 3)
                  have HOq := hide (hO.below hbn)
                  have hcn : (wr.alloc (.cells #[.int .i64 y] 3)).cell? ⟨wr.heap.size, 0, none⟩ = some (.int .i64 y) := by simp
                  have hszn : w2.heap.size ≤ (wr.alloc (.cells #[.int .i64 y] 3)).heap.size := by simp; omega
                  have hx4 : wr.cell? ⟨w.heap.size, 2, none⟩ = some (.slice (some ⟨g, 0, none⟩) m c2) := (HN4.out.cell (p := ⟨w.heap.size, 2, none⟩) (Nat.lt_of_lt_of_le hxlt hsw2)).trans hx3
                  have hc4 : wr.cell? ⟨g, k * 2, none⟩ = some (.int .i64 y) := (HN4.out.cell (p := ⟨g, k * 2, none⟩) (Nat.lt_of_lt_of_le hglt hsw2)).trans hc3
                  clear hO
                  generalize hlt4 : (ks.take q).length = nq at *
                  have HLQ := hide hlt4
                  clear hlt4
                  go_wp2_with (first
                    | (at_builtin; refine wpList_appZ rfl (.tmp 63) (.tmp 70) rfl rfl (unhide HOq) rfl hcn (by rw [HLQ.out]; omega) hszn ?_; intro v9 w9 hr9 hg9 hv9; have HR9 := hide hr9; have HB9 := hide (below_app (HN4.out.trans (hbn.mono hsz4)) hg9 hszn hv9); clear hr9 hg9 hv9))
                  go_loopw [7, 9] (fun mv kv wr => ∃ q2 : Nat, q ≤ q2 ∧ q2 ≤ ln ∧ kv = .int .i64 (q2 : Int) ∧ OwnI wr w2.heap.size mv (ks.take q ++ [y] ++ (ks.drop q).take (q2 - q)) ∧ Hid (Below w2.heap.size w2 wr)) (fun _ kv _ => ln - (intOf kv).toNat)
                  case atStart => exact ⟨q, by omega, hj, rfl, by rw [Nat.sub_self, List.take_zero, List.append_nil]; exact HR9.out, HB9⟩
                  case round =>
                    obtain ⟨q2, hq1, hq2, rfl, hO, HN5⟩ := hrel
                    have hsz5 := HN5.out.size
                    obtain ⟨ra, rc, rfl, _⟩ := hO.shape
                    have hlq2 := unhide HLE2 (q2 - q)
                    by_cases hql : q2 < ln
                    · obtain ⟨gq, e9, hlc, hkm, hcq⟩ := unhide HCK wr q2 HN5.out hql
                      cases e9
                      have HTq := hide (unhide HDT q2 hq1 hql)
                      have hbn2 := (Below.refl wr.heap.size wr).alloc (Nat.le_refl _) (.cells #[.int .i64 (ks.getD q2 0)] 3)
                      have HOq2 := hide (hO.below hbn2)
                      have hcn2 : (wr.alloc (.cells #[.int .i64 (ks.getD q2 0)] 3)).cell? ⟨wr.heap.size, 0, none⟩ = some (.int .i64 (ks.getD q2 0)) := by simp
                      have hszn2 : w2.heap.size ≤ (wr.alloc (.cells #[.int .i64 (ks.getD q2 0)] 3)).heap.size := by simp; omega
                      clear hO
                      generalize hlt4 : (ks.take q ++ [y] ++ (ks.drop q).take (q2 - q)).length = nq2 at *
                      have HLQ2 := hide hlt4
                      clear hlt4
                      generalize ks.getD q2 0 = xq at *
                      go_wp2_with (first
                        | (at_builtin; refine wpList_appZ rfl (.tmp 79) (.tmp 84) rfl rfl (unhide HOq2) rfl hcn2 (by rw [HLQ2.out]; omega) hszn2 ?_; intro v9 w9 hr9 hg9 hv9))
                      rw [List.append_assoc, ← HTq.out] at hr9
                      go_roundw
                      case rel => exact ⟨q2 + 1, by omega, by omega, by go_num, hr9, below_app (HN5.out.trans (hbn2.mono hsz5)) hg9 hszn2 hv9⟩
                      case measure => simp [intOf]; omega
                    · have hqe2 : q2 = ln := by omega
                      have HOE : Hid (OwnI wr w.heap.size (.slice ra (ks.take q ++ [y] ++ (ks.drop q).take (q2 - q)).length rc) (ks.take q ++ [y] ++ ks.drop q)) := by
                        have h9 := hO
                        rw [hqe2] at h9 ⊢
                        rw [HFIN.out] at h9 ⊢
                        exact owns_mono h9 (by omega)
                      have HX5 := hide (HX2.out.below HN5.out)
                      have HN6 : Hid (Below w.heap.size w wr) := HNW2.out.trans (HN5.out.mono (by omega))
                      clear hqe2 hO
                      generalize (ks.take q ++ [y] ++ (ks.drop q).take (q2 - q)).length = nq2 at *
                      go_wp2
                      go_roundw
                      case rel => exact ⟨k + 1, by omega, by go_num, ⟨_, HOE.out, HR2.out⟩, HX5, HN6⟩
                      case measure => simp [intOf]; omega
        · have hje : j = ln := by omega
          have HDR : Hid (∀ x ∈ ks.drop j, y < x) := unhide HDROP j y (Or.inl hje)
          have hdj : decide ((j : Int) < (ln : Int)) = false := by simp; omega
          go_wp2_with fail
          go_quiet (fail)
          have HNW : Hid (Below w1.heap.size w1 (wr.drewN nq)) := HN2.out.trans ((drewn_b2 wr nq).mono hsz2)
          have HJE := hide hje
          clear hje
          generalize wr.drewN nq = w2 at *
          clear HN2 hx2' hc1' hsz2
          have hx3 : w2.cell? ⟨w.heap.size, 2, none⟩ = some (.slice (some ⟨g, 0, none⟩) m c2) := (HNW.out.cell (p := ⟨w.heap.size, 2, none⟩) hxlt).trans hx2
          have hc3 : w2.cell? ⟨g, k * 2, none⟩ = some (.int .i64 y) := (HNW.out.cell (p := ⟨g, k * 2, none⟩) hglt).trans hc1
          have hsw2 := HNW.out.size
          have HNW2 : Hid (Below w.heap.size w w2) := HNX.out.trans (HNW.out.mono hsz)
          have HX2 := hide (HX.out.below HNW.out)
          cases b with
          | true =>
            have HR2 := hide (unhide HS2 (List.mem_of_mem_take (HB.out.1.1 rfl)))
            have HO2 := hide (HOWN.out.below HNW.out)
            go_wp2
            go_roundw
            case rel => exact ⟨k + 1, by omega, by go_num, ⟨ks, HO2.out, HR2.out⟩, HX2, HNW2⟩
            case measure => simp [intOf]; omega
          | false =>
            have HR2 : Hid (Rises ws (k + 1) (ks.take j ++ [y] ++ ks.drop j)) := by
              exact unhide HM2 j hj HB.out.2 HDR.out (fun hm => by have := HB.out.1.2 hm; cases this)
            have HCK : Hid (∀ W q, Below w2.heap.size w2 W → q < ln → ∃ gq, ka = some ⟨gq, 0, none⟩ ∧ ln ≤ kc ∧ kc ≤ 9223372036854775807 ∧ W.cell? ⟨gq, q, none⟩ = some (.int .i64 (ks.getD q 0))) := fun W q hW hq => by
              obtain ⟨gq, h1, _, hgq, h2, h3, hkq⟩ := hksh (by omega)
              exact ⟨gq, h1, h2, h3, (hW.cell (p := ⟨gq, q, none⟩) (Nat.lt_of_lt_of_le hgq hsw2)).trans ((HNW.out.cell (p := ⟨gq, q, none⟩) hgq).trans (hkq q hq))⟩
            have hdj9 : (ks.drop j).take (ln - j) = ks.drop j := List.take_of_length_le (by rw [List.length_drop, HLN.out]; exact Nat.le_refl _)
            have HFIN : Hid (ks.take j ++ [y] ++ (ks.drop j).take (ln - j) = ks.take j ++ [y] ++ ks.drop j) := hide (by rw [hdj9])
            clear hdj9
            have HDT : Hid (∀ q, j ≤ q → q < ln → (ks.drop j).take (q + 1 - j) = (ks.drop j).take (q - j) ++ [ks.getD q 0]) := fun q h1 h2 => by
              have hd : q - j < (ks.drop j).length := by rw [List.length_drop, HLN.out]; omega
              rw [show q + 1 - j = q - j + 1 by omega, takeZ hd]
              congr 2
              rw [List.getD_eq_getElem?_getD, List.getD_eq_getElem?_getD, List.getElem?_drop, show j + (q - j) = q by omega]
            have HLE : Hid (∀ q, (ks.take q).length ≤ 549755813888) := fun q => by rw [List.length_take, HLN.out]; omega
            have HLE2 : Hid (∀ q, (ks.take j ++ [y] ++ (ks.drop j).take q).length ≤ 1099511627776) := fun q => by
              simp only [List.length_append, List.length_take, List.length_drop, List.length_singleton, HLN.out]
              omega
            clear HB HDR hksh HS2 HM2 HDROP HOWN
            go_wp2
            go_loopw [7, 8] (fun mv kv wr => ∃ q : Nat, q ≤ j ∧ kv = .int .i64 (q : Int) ∧ OwnI wr w2.heap.size mv (ks.take q) ∧ Hid (Below w2.heap.size w2 wr)) (fun _ kv _ => j - (intOf kv).toNat)
            case atStart => exact ⟨0, by omega, rfl, by rw [List.take_zero]; exact OwnI.nil _ _, Below.refl _ _⟩
            case round =>
              obtain ⟨q, hq, rfl, hO, HN4⟩ := hrel
              have hsz4 := HN4.out.size
              obtain ⟨pa, pc, rfl, _⟩ := hO.shape
              have hlq := unhide HLE q
              by_cases hqj : q < j
              · obtain ⟨gq, e9, hlc, hkm, hcq⟩ := unhide HCK wr q HN4.out (by omega)
                cases e9
                have HTq := hide (unhide HTK q (by omega))
                have hbn := (Below.refl wr.heap.size wr).alloc (Nat.le_refl _) (.cells #[.int .i64 (ks.getD q 0)] 3)
                have HOq := hide (hO.below hbn)
                have hcn : (wr.alloc (.cells #[.int .i64 (ks.getD q 0)] 3)).cell? ⟨wr.heap.size, 0, none⟩ = some (.int .i64 (ks.getD q 0)) := by simp
                have hszn : w2.heap.size ≤ (wr.alloc (.cells #[.int .i64 (ks.getD q 0)] 3)).heap.size := by simp; omega
                clear hO
                generalize hlt4 : (ks.take q).length = nq at *
                have HLQ := hide hlt4
                clear hlt4
                generalize ks.getD q 0 = xq at *
                go_wp2_with (first
                  | (at_builtin; refine wpList_appZ rfl (.tmp 56) (.tmp 61) rfl rfl (unhide HOq) rfl hcn (by rw [HLQ.out]; omega) hszn ?_; intro v9 w9 hr9 hg9 hv9))
                rw [← HTq.out] at hr9
                go_roundw
                case rel => exact ⟨q + 1, by omega, by go_num, hr9, below_app (HN4.out.trans (hbn.mono hsz4)) hg9 hszn hv9⟩
                case measure => simp [intOf]; omega
              · have hqe : q = j := by omega
                subst hqe
                have hbn := (Below.refl wr.heap.size wr).alloc (Nat.le_refl _) (.cells #[.int .i64 y] 3)
                have HOq := hide (hO.below hbn)
                have hcn : (wr.alloc (.cells #[.int .i64 y] 3)).cell? ⟨wr.heap.size, 0, none⟩ = some (.int .i64 y) := by simp
                have hszn : w2.heap.size ≤ (wr.alloc (.cells #[.int .i64 y] 3)).heap.size := by simp; omega
                have hx4 : wr.cell? ⟨w.heap.size, 2, none⟩ = some (.slice (some ⟨g, 0, none⟩) m c2) := (HN4.out.cell (p := ⟨w.heap.size, 2, none⟩) (Nat.lt_of_lt_of_le hxlt hsw2)).trans hx3
                have hc4 : wr.cell? ⟨g, k * 2, none⟩ = some (.int .i64 y) := (HN4.out.cell (p := ⟨g, k * 2, none⟩) (Nat.lt_of_lt_of_le hglt hsw2)).trans hc3
                clear hO
                generalize hlt4 : (ks.take q).length = nq at *
                have HLQ := hide hlt4
                clear hlt4
                go_wp2_with (first
                  | (at_builtin; refine wpList_appZ rfl (.tmp 63) (.tmp 70) rfl rfl (unhide HOq) rfl hcn (by rw [HLQ.out]; omega) hszn ?_; intro v9 w9 hr9 hg9 hv9; have HR9 := hide hr9; have HB9 := hide (below_app (HN4.out.trans (hbn.mono hsz4)) hg9 hszn hv9); clear hr9 hg9 hv9))
                go_loopw [7, 9] (fun mv kv wr => ∃ q2 : Nat, q ≤ q2 ∧ q2 ≤ ln ∧ kv = .int .i64 (q2 : Int) ∧ OwnI wr w2.heap.size mv (ks.take q ++ [y] ++ (ks.drop q).take (q2 - q)) ∧ Hid (Below w2.heap.size w2 wr)) (fun _ kv _ => ln - (intOf kv).toNat)
                case atStart => exact ⟨q, by omega, hj, rfl, by rw [Nat.sub_self, List.take_zero, List.append_nil]; exact HR9.out, HB9⟩
                case round =>
                  obtain ⟨q2, hq1, hq2, rfl, hO, HN5⟩ := hrel
                  have hsz5 := HN5.out.size
                  obtain ⟨ra, rc, rfl, _⟩ := hO.shape
                  have hlq2 := unhide HLE2 (q2 - q)
                  by_cases hql : q2 < ln
                  · exact absurd hql (by have := HJE.out; omega)
                  · have hqe2 : q2 = ln := by omega
                    have HOE : Hid (OwnI wr w.heap.size (.slice ra (ks.take q ++ [y] ++ (ks.drop q).take (q2 - q)).length rc) (ks.take q ++ [y] ++ ks.drop q)) := by
                      have h9 := hO
                      rw [hqe2] at h9 ⊢
                      rw [HFIN.out] at h9 ⊢
                      exact owns_mono h9 (by omega)
                    have HX5 := hide (HX2.out.below HN5.out)
                    have HN6 : Hid (Below w.heap.size w wr) := HNW2.out.trans (HN5.out.mono (by omega))
                    clear hqe2 hO
                    generalize (ks.take q ++ [y] ++ (ks.drop q).take (q2 - q)).length = nq2 at *
                    go_wp2
                    go_roundw
                    case rel => exact ⟨k + 1, by omega, by go_num, ⟨_, HOE.out, HR2.out⟩, HX5, HN6⟩
                    case measure => simp [intOf]; omega
    · have hkm : k = m := by omega
      have HE := hide hkm
      have HR : Hid (Rises ws m ks) := by rw [← hkm]; exact hris
      have HOWN := hide hown
      clear hkm hown hris hksh
      go_wp2
      go_ret
      exact ⟨_, ks, rfl, HOWN.out, HR.out, HNX.out⟩
end Go.Proofs.Ytfgjhlnaaopdeaa
