/- cutEntries, Laid, Intact of entries. Intact of entries. -/
import Derived.Test.YtpklbchbldipnabDoorNAj
import Derived.Deep.Cut
namespace Go.Proofs.YtpklbchbldipnabDoor
open Go.RowKit Go.Maps Classical

theorem IsEn.cut {w : World} {a : Option Addr} {n c k : Nat} {l : List Ent} (h : IsEn w (.slice a n c) l) (hk : k ≤ n) : IsEn w (.slice a k c) (l.take k) := by
  have hn := h.lenEq
  obtain ⟨h0, a', c', hv, hl, hm, hz, hc⟩ := h
  injection hv with e1 e2 e3
  subst e1 e3
  have hlk : (l.take k).length = k := by rw [List.length_take]; omega
  refine ⟨fun e he => h0 e (List.mem_of_mem_take he), a, c, by rw [hlk], by omega, hm, hz, fun hp => ?_⟩
  rw [hlk] at hp ⊢
  obtain ⟨b, o, ha, hcell⟩ := hc (by omega)
  refine ⟨b, o, ha, fun j hj => ?_⟩
  have := hcell j (by omega)
  rw [List.getD_eq_getElem?_getD, List.getElem?_take_of_lt hj, ← List.getD_eq_getElem?_getD]
  exact this
set_option maxHeartbeats 400000 in
theorem cutEn_calls {w : World} {a : Option Addr} {n c : Nat} {l : List Ent} (h : IsEn w (.slice a n c) l) :
    Calls Tryd.prog 7 #[.slice a n c] w fun e w' => (∃ m, e = .returned (.slice a m c) ∧ m ≤ 1100 ∧ IsEn w (.slice a m c) (l.take 1100)) ∧ w' = w := by
  have hn := h.lenEq
  by_cases hlt : 1100 < n
  · have hi := h.cut (k := 1100) (by omega)
    have hkI : (1100 : Int) < (n : Int) := by omega
    have hkc : (1100 : Int) ≤ (c : Int) := by omega
    obtain ⟨ad, had⟩ : ∃ ad, a = some ad := by
      obtain ⟨_, a', cp', hv, _, _, _, hc⟩ := h
      obtain ⟨b, off, ha, _⟩ := hc (by omega)
      injection hv with e1
      exact ⟨_, e1.trans ha⟩
    subst had
    have HI := hide hi
    clear hn h hi
    go_enter Tryd.func7, Tryd.ntmps7
    go_wp2
    go_ret
    exact ⟨⟨1100, rfl, by omega, unhide HI⟩, rfl⟩
  · have hi : IsEn w (.slice a n c) (l.take 1100) := by rw [List.take_of_length_le (by omega)]; exact h
    have hkI : ¬ (1100 : Int) < (n : Int) := by omega
    have HI := hide hi
    clear hn h hi
    go_enter Tryd.func7, Tryd.ntmps7
    go_wp2
    go_ret
    exact ⟨⟨n, rfl, by omega, unhide HI⟩, rfl⟩
def mk1 : Ent := ⟨[47, 49], false, List.replicate 32 0, List.replicate 32 0, 0, 0⟩
def mk2 : Ent := ⟨[47, 50], false, List.replicate 32 0, List.replicate 32 0, 0, 0⟩
def mk3 : Ent := ⟨[47, 51], false, List.replicate 32 0, List.replicate 32 0, 0, 0⟩
def mks : List Ent := [mk1, mk2, mk3]
theorem mk1_ok : EnOk mk1 := ⟨⟨by decide, ⟨by decide, by decide⟩, ⟨by decide, by decide⟩⟩, by decide, by decide, by decide⟩
theorem mk2_ok : EnOk mk2 := ⟨⟨by decide, ⟨by decide, by decide⟩, ⟨by decide, by decide⟩⟩, by decide, by decide, by decide⟩
theorem mk3_ok : EnOk mk3 := ⟨⟨by decide, ⟨by decide, by decide⟩, ⟨by decide, by decide⟩⟩, by decide, by decide, by decide⟩
theorem mks_ok : ∀ e ∈ mks, EnOk e := by
  intro e he
  unfold mks at he
  simp only [List.mem_cons, List.not_mem_nil, or_false] at he
  rcases he with rfl | rfl | rfl
  · exact mk1_ok
  · exact mk2_ok
  · exact mk3_ok
theorem bMk1 (W : World) : (Instr.build 38 #[(0, .string ⟨#[47, 49]⟩)]).run Tryd.prog W = .ok (.agg (enV mk1).toArray) W := by kernel_rfl
theorem bMk2 (W : World) : (Instr.build 38 #[(0, .string ⟨#[47, 50]⟩)]).run Tryd.prog W = .ok (.agg (enV mk2).toArray) W := by kernel_rfl
theorem bMk3 (W : World) : (Instr.build 38 #[(0, .string ⟨#[47, 51]⟩)]).run Tryd.prog W = .ok (.agg (enV mk3).toArray) W := by kernel_rfl
theorem bMks (W : World) : (Instr.buildSlice 22 3 #[(0, .agg (enV mk1).toArray), (1, .agg (enV mk2).toArray), (2, .agg (enV mk3).toArray)]).run Tryd.prog W = .ok (.slice (some ⟨W.heap.size, 0, none⟩) 3 3) (W.alloc (.cells (ensV mks).toArray 38)) := by kernel_rfl
/-- A copy with marks behind it, in memory of its own. -/
structure ELaid (w : World) (B g n c : Nat) (l : List Ent) : Prop where
  len : n = l.length
  room : n + 3 ≤ c ∧ c ≤ 9223372036854775807
  own : OwnE w B (.slice (some ⟨g, 0, none⟩) (n + 3) c) (l ++ mks)
theorem ELaid.below {w w' : World} {B g n c : Nat} {l : List Ent} (h : ELaid w B g n c l) (hb : Below w.heap.size w w') : ELaid w' B g n c l := ⟨h.len, h.room, h.own.below hb⟩
theorem ELaid.isEn {w : World} {B g n c : Nat} {l : List Ent} (h : ELaid w B g n c l) : IsEn w (.slice (some ⟨g, 0, none⟩) n c) l := by
  have := h.own.isEn.cut (k := n) (by omega)
  rw [List.take_left' h.len.symm] at this
  exact this
theorem ELaid.mark {w : World} {B g n c : Nat} {l : List Ent} (h : ELaid w B g n c l) (j : Nat) (hj : j < 3) : w.rangeAt g ((n + j) * 68) (enV (mks.getD j .nul)) := by
  obtain ⟨_, a', c', hv, _, _, _, hc⟩ := h.own.isEn
  have hl3 : (l ++ mks).length = n + 3 := by rw [List.length_append, h.len]; rfl
  obtain ⟨b, o, ha, hr⟩ := hc (by omega)
  injection hv with e1
  rw [ha] at e1
  injection e1 with e1
  injection e1 with e2 e3
  subst e2 e3
  have := hr (n + j) (by omega)
  rw [Nat.zero_add, List.getD_eq_getElem?_getD, List.getElem?_append_right (by rw [h.len]; omega), h.len, Nat.add_sub_cancel_left, ← List.getD_eq_getElem?_getD] at this
  rw [h.len]
  exact this
theorem elaid_last {w : World} {B n : Nat} {v : Value} {l : List Ent} (hn : n = l.length) (h : OwnE w B v (l ++ mks)) : ∃ g c, v = .slice (some ⟨g, 0, none⟩) (n + 3) c ∧ n + 3 ≤ c ∧ c ≤ 9223372036854775807 ∧ ELaid w B g n c l := by
  have hl3 : (l ++ mks).length = n + 3 := by rw [List.length_append, hn]; rfl
  have h2 := h.2.2
  rw [hl3] at h2
  rcases h2 with ⟨_, h0⟩ | ⟨g, cap, cur, rfl, hb, hg, hle, hm, hs, ht⟩
  · omega
  · have hm2 : cap ≤ 9223372036854775807 := by simpa [maxLen] using hm
    exact ⟨g, cap, rfl, hle, hm2, hn, ⟨hle, hm2⟩, h⟩
set_option maxRecDepth 100000 in
set_option maxHeartbeats 4000000 in
theorem elaid_calls {w : World} {a : Option Addr} {n c : Nat} {l : List Ent} (h : IsEn w (.slice a n c) l) (hl : n ≤ 1100) :
    Calls Tryd.prog 13 #[.slice a n c] w fun e w' => ∃ g c', e = .returned (.slice (some ⟨g, 0, none⟩) n c') ∧ ELaid w' w.heap.size g n c' l ∧ Below w.heap.size w w' := by
  have HN := hide h.lenEq.1
  have HLL : Hid (l.length ≤ 1100) := by show _ ≤ _; rw [← h.lenEq.1]; exact hl
  have HX := hide h
  have HLIT : Hid (∀ W : World, IsEn (W.alloc (.cells (ensV mks).toArray 38)) (.slice (some ⟨W.heap.size, 0, none⟩) 3 3) mks) := fun W => isEn_lit W mks mks_ok (by decide)
  clear h
  go_enter Tryd.func13, Tryd.ntmps13
  go_upto_region 4 with (first
    | (at_builtin; refine wpList_appEn rfl (.tmp 4) (.tmp 5) rfl (v := .slice none 0 0) rfl (OwnE.nil w w.heap.size) rfl (unhide HX) (by have := HLL.out; simp; omega) (Nat.le_refl _) ?_; intro v1 w1 hown1 hgrow1 hv1; have hB1 := below_app (Below.refl w.heap.size w) hgrow1 (Nat.le_refl _) hv1; have hsz1 := hB1.size; rw [List.nil_append] at hown1; have HO1 := hide hown1; clear hgrow1 hv1 hown1)
    | (refine wpList_bld1 rfl 38 0 (.const (.string ⟨#[47, 49]⟩)) rfl (v := .string ⟨#[47, 49]⟩) (u := .agg (enV mk1).toArray) rfl bMk1 ?_; refine wpList_bld1 rfl 38 0 (.const (.string ⟨#[47, 50]⟩)) rfl (v := .string ⟨#[47, 50]⟩) (u := .agg (enV mk2).toArray) rfl bMk2 ?_; refine wpList_bld1 rfl 38 0 (.const (.string ⟨#[47, 51]⟩)) rfl (v := .string ⟨#[47, 51]⟩) (u := .agg (enV mk3).toArray) rfl bMk3 ?_)
    | (refine wpList_bls3 rfl 22 3 (.tmp 8) (.tmp 9) (.tmp 10) rfl (v := .agg (enV mk1).toArray) (v2 := .agg (enV mk2).toArray) (v3 := .agg (enV mk3).toArray) (u := .slice (some ⟨w1.heap.size, 0, none⟩) 3 3) (w' := w1.alloc (.cells (ensV mks).toArray 38)) rfl rfl rfl (bMks w1) ?_)
    | (at_builtin; refine wpList_appEn rfl (.tmp 7) (.tmp 11) rfl rfl (HO1.out.below (lit_blw _ _)) rfl (unhide HLIT w1) (by rw [show mks.length = 3 from rfl]; have := HLL.out; omega) (Nat.le_trans hsz1 (lit_blw _ _).size) ?_; intro v2 w2 hown2 hgrow2 hv2))
  have hB2 := below_app (below_then hB1 (lit_blw _ _)) hgrow2 (Nat.le_trans hsz1 (lit_blw _ _).size) hv2
  clear hgrow2 hv2
  obtain ⟨g, c2, hv3, hc1, hc2, hL⟩ := elaid_last HN.out hown2
  subst hv3
  have HL2 := hide hL
  have hnc : (n : Int) ≤ (c2 : Int) := by omega
  have hn0 : (0 : Int) ≤ (n : Int) := by omega
  clear hown2 hL
  go_wp2
  go_ret
  exact ⟨g, c2, rfl, unhide HL2, hB2⟩
end Go.Proofs.YtpklbchbldipnabDoor

namespace Go.Proofs.YtpklbchbldipnabDoor
open Go.RowKit Go.Maps Classical

set_option maxRecDepth 100000 in
set_option maxHeartbeats 4000000 in
theorem eintact_calls {w : World} {B g n c : Nat} {l : List Ent} {v : Value} (h : ELaid w B g n c l) (hv : IsEn w v l) (hl : n ≤ 1100) :
    Calls Tryd.prog 21 #[.slice (some ⟨g, 0, none⟩) n c, v] w fun e w' => e = .returned (.bool true) ∧ Below w.heap.size w w' := by
  have hse := esame_calls h.isEn hv
  rw [decide_eq_true rfl] at hse
  have HSE := hide hse
  have HH := hide h
  obtain ⟨h3, h4⟩ := h.room
  have hnc : (n : Int) + 3 ≤ (c : Int) := by omega
  have hn0 : (0 : Int) ≤ (n : Int) := by omega
  have hn3 : (n : Int) ≤ (n : Int) + 3 := by omega
  have hn30 : (0 : Int) ≤ (n : Int) + 3 := by omega
  have HI1 := hide (infoEof mk1_ok.ok)
  have HI2 := hide (infoEof mk2_ok.ok)
  have HI3 := hide (infoEof mk3_ok.ok)
  have q1 := en_eql mk1_ok.ok mk1_ok.ok
  have q2 := en_eql mk2_ok.ok mk2_ok.ok
  have q3 := en_eql mk3_ok.ok mk3_ok.ok
  rw [decide_eq_true rfl] at q1 q2 q3
  have qg := en_guard .eql
  obtain ⟨av, cv, rfl⟩ := hv.shape
  have HR1 : Hid (∀ W, Below w.heap.size w W → W.rangeAt g (n * 68) (enV mk1)) := fun W hW => by
    have := (HH.out.below hW).mark 0 (by omega)
    exact this
  have HR2 : Hid (∀ W, Below w.heap.size w W → W.rangeAt g (n * 68 + 68) (enV mk2)) := fun W hW => by
    have := (HH.out.below hW).mark 1 (by omega)
    rw [show (n + 1) * 68 = n * 68 + 68 by omega] at this
    exact this
  have HR3 : Hid (∀ W, Below w.heap.size w W → W.rangeAt g (n * 68 + 136) (enV mk3)) := fun W hW => by
    have := (HH.out.below hW).mark 2 (by omega)
    rw [show (n + 2) * 68 = n * 68 + 136 by omega] at this
    exact this
  clear h hse hv
  go_enter Tryd.func21, Tryd.ntmps21
  go_upto_region 2 with fail
  go_wp2_with (first
    | (go_at_call 10; refine (unhide HSE).mono ?_; rintro e w1 ⟨rfl, hb1⟩)
    | (refine wpList_load_on rfl 38 (.tmp 19) rfl g (n * 68) rfl (enV mk1) _ (unhide HR1 w1 hb1) Tryd.underlying38 rfl HI1.out ?_; refine wpList_bld1 rfl 38 0 (.const (.string ⟨#[47, 49]⟩)) rfl (v := .string ⟨#[47, 49]⟩) (u := .agg (enV mk1).toArray) rfl bMk1 ?_)
    | (refine wpList_load_on rfl 38 (.tmp 26) rfl g (n * 68 + 68) rfl (enV mk2) _ (unhide HR2 w1 hb1) Tryd.underlying38 rfl HI2.out ?_; refine wpList_bld1 rfl 38 0 (.const (.string ⟨#[47, 50]⟩)) rfl (v := .string ⟨#[47, 50]⟩) (u := .agg (enV mk2).toArray) rfl bMk2 ?_)
    | (refine wpList_load_on rfl 38 (.tmp 33) rfl g (n * 68 + 136) rfl (enV mk3) _ (unhide HR3 w1 hb1) Tryd.underlying38 rfl HI3.out ?_; refine wpList_bld1 rfl 38 0 (.const (.string ⟨#[47, 51]⟩)) rfl (v := .string ⟨#[47, 51]⟩) (u := .agg (enV mk3).toArray) rfl bMk3 ?_))
  go_ret
  exact ⟨rfl, hb1⟩
end Go.Proofs.YtpklbchbldipnabDoor
