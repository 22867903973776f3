/- A list and a buffer with marks behind them, changed in place. -/
import Derived.Test.YtpklbchbldipnabDoorNeP
import Derived.Test.YtpklbchbldipnabDoorNAl
import Derived.Test.YtpklbchbldipnabDoorNAj
namespace Go.Proofs.YtpklbchbldipnabDoor
open Go.RowKit Go.Maps Classical

theorem mksl_get {l : List Ent} {k : Nat} (hk : k < l.length) : (l ++ mks).getD k .nul = l.getD k .nul := by
  rw [List.getD_eq_getElem?_getD, List.getD_eq_getElem?_getD, List.getElem?_append_left hk]
theorem ELaid.put {W : World} {B g n c : Nat} {l : List Ent} (h : ELaid W B g n c l) {k j : Nat} (hk : k < n) {cs : List Value} {e' : Ent} (hj : j + cs.length ≤ 68) (he : putsV (enV (l.getD k .nul)) j cs = enV e') (hok : EnOk e') :
    ELaid (W.setCells g (k * 68 + j) cs) B g n c (l.set k e') ∧ W.grownBy (W.setCells g (k * 68 + j) cs) (some g) := by
  have hkl : k < l.length := by rw [← h.len]; exact hk
  obtain ⟨h1, h2⟩ := h.own.put (k := k) (by rw [List.length_append, h.len]; rfl) (by omega) hj (by rw [mksl_get hkl]; exact he) hok
  refine ⟨⟨by rw [List.length_set, h.len], h.room, ?_⟩, h2⟩
  rw [← List.set_append_left _ _ hkl]
  exact h1
theorem ELaid.cellE {W : World} {B g n c : Nat} {l : List Ent} (h : ELaid W B g n c l) {k j : Nat} (hk : k < n) (hj : j < 68) : W.cell? ⟨g, k * 68 + j, none⟩ = (enV (l.getD k .nul))[j]? ∧ W.frozen? ⟨g, k * 68 + j, none⟩ = false := by
  have hkl : k < l.length := by rw [← h.len]; exact hk
  have := h.own.cellE (k := k) (by rw [List.length_append, h.len]; rfl) (by omega) hj
  rw [mksl_get hkl] at this
  exact this
theorem ELaid.kept {w w' : World} {B g n c : Nat} {l : List Ent} {row : Option Nat} (h : ELaid w B g n c l) (hg : w.grownBy w' row) (hne : some g ≠ row) : ELaid w' B g n c l := ⟨h.len, h.room, h.own.kept hg (Or.inr hne)⟩
theorem ELaid.lt {w : World} {B g n c : Nat} {l : List Ent} (h : ELaid w B g n c l) : B ≤ g ∧ g < w.heap.size := h.own.base
theorem ELaid.ok {w : World} {B g n c : Nat} {l : List Ent} (h : ELaid w B g n c l) : ∀ e ∈ l, EnOk e := fun e he => h.own.1 e (List.mem_append_left _ he)
theorem laid_apart {w : World} {B B2 g n c gb nb cb : Nat} {l : List Ent} {xs : List Int} (h : ELaid w B g n c l) (hb : IsLaid w B2 gb nb cb xs) : g ≠ gb := fun e => by
  subst e
  rcases hb.own.2 with ⟨h0, _⟩ | ⟨g', cap, cur, hv, _, hgg, _⟩
  · cases h0
  · injection hv with e1 _ _
    injection e1 with e1
    injection e1 with e1
    subst e1
    rcases h.own.block hgg (by decide) with h1 | h1
    · cases h1
    · exact h1 rfl
theorem IsLaid.put {W : World} {B g n c : Nat} {xs : List Int} (h : IsLaid W B g n c xs) {k : Nat} (hk : k < n) {x : Int} (hx : 0 ≤ x ∧ x ≤ 255) :
    IsLaid (W.setCell ⟨g, k, none⟩ (.int .u8 x)) B g n c (xs.set k x) ∧ W.grownBy (W.setCell ⟨g, k, none⟩ (.int .u8 x)) (some g) := by
  have hkl : k < xs.length := by rw [← h.len]; exact hk
  obtain ⟨h1, h2⟩ := World.ownsRow.stored h.own k (.int .u8 x)
  refine ⟨⟨fun c hc => ?_, by rw [List.length_set, h.len], ?_⟩, h2⟩
  · rcases List.mem_or_eq_of_mem_set hc with hc | hc
    · exact h.mem c hc
    · rw [hc]; exact hx
  · rw [← List.map_set, List.set_append_left _ _ hkl] at h1
    exact h1
theorem IsLaid.cellB {W : World} {B g n c : Nat} {xs : List Int} (h : IsLaid W B g n c xs) {k : Nat} (hk : k < n) : (∃ u, W.cell? ⟨g, k, none⟩ = some u) ∧ W.frozen? ⟨g, k, none⟩ = false := by
  refine ⟨?_, World.ownsRow.frozenAt h.own _⟩
  have hl := h.own.1
  rw [World.ownsRow.cellAt h.own _ (by omega)]
  exact ⟨_, List.getElem?_eq_getElem (by omega)⟩
set_option maxRecDepth 100000 in
set_option maxHeartbeats 2000000 in
theorem place_calls {x : Int} {n : Nat} (h0 : 0 < n) (hn : n ≤ 100000) (w : World) : Calls Tryd.prog 47 #[.int .i64 x, .int .i64 (n : Int)] w fun e w' => ∃ k : Nat, e = .returned (.int .i64 (k : Int)) ∧ k < n ∧ w' = w := by
  obtain ⟨r, hr⟩ : ∃ r, x.tmod (n : Int) = r := ⟨_, rfl⟩
  have hrb : -(n : Int) < r ∧ r < (n : Int) := by
    rw [← hr]
    by_cases h : x < 0
    · have e1 : x.tmod (n : Int) = -((-x).tmod (n : Int)) := by rw [Int.neg_tmod, Int.neg_neg]
      have e2 := Int.tmod_eq_emod_of_nonneg (a := -x) (b := n) (by omega)
      have e3 := Int.emod_nonneg (-x) (show (n : Int) ≠ 0 by omega)
      have e4 := Int.emod_lt_of_pos (-x) (show (0 : Int) < n by omega)
      omega
    · have e2 := Int.tmod_eq_emod_of_nonneg (a := x) (b := n) (by omega)
      have e3 := Int.emod_nonneg x (show (n : Int) ≠ 0 by omega)
      have e4 := Int.emod_lt_of_pos x (show (0 : Int) < n by omega)
      omega
  have hrw : IntKind.i64.wrap r = r := IntWalk.i64_in _ (by omega)
  have hnz : ¬ (n : Int) = 0 := by omega
  by_cases hneg : r < 0
  · obtain ⟨k, hk⟩ := Int.eq_ofNat_of_zero_le (show 0 ≤ r + n by omega)
    have hkw : IntKind.i64.wrap (r + n) = (k : Int) := by rw [IntWalk.i64_in _ (by omega), hk]
    have HK : Hid (k < n) := by show _ < _; omega
    clear hk hrb
    go_enter Tryd.func47, Tryd.ntmps47
    go_wp2
    go_ret
    exact ⟨k, rfl, HK.out, rfl⟩
  · obtain ⟨k, hk⟩ := Int.eq_ofNat_of_zero_le (show 0 ≤ r by omega)
    have HK : Hid (k < n) := by show _ < _; omega
    subst hk
    clear hrb
    go_enter Tryd.func47, Tryd.ntmps47
    go_wp2
    go_ret
    exact ⟨k, rfl, HK.out, rfl⟩
end Go.Proofs.YtpklbchbldipnabDoor
