/- ShaPlays' walk. -/
import Derived.Test.YtmnmnepiikeomaaDoorShaThree
namespace Go.Proofs.YtmnmnepiikeomaaDoor
open Go.RowKit

/-- A step's fields, and what its bytes read. -/
structure StepF where
  K : Int
  O : Int
  T : Int
  vb : Value
  xs : List Int
def StepF.nul : StepF := ⟨0, 0, 0, .slice none 0 0, []⟩
structure IsSteps (w : World) (v : Value) (ss : List StepF) : Prop where
  val : ∃ a cap, v = .slice a ss.length cap ∧ ss.length ≤ cap ∧ cap ≤ 9223372036854775807 ∧
    (0 < ss.length → ∃ b off, a = some ⟨b, off, none⟩ ∧ ∀ j, j < ss.length → w.cell? ⟨b, off + j * 4, none⟩ = some (.int .i64 (ss.getD j .nul).K) ∧ w.cell? ⟨b, off + j * 4 + 1, none⟩ = some (.int .i64 (ss.getD j .nul).O) ∧ w.cell? ⟨b, off + j * 4 + 2, none⟩ = some (.int .i64 (ss.getD j .nul).T) ∧ w.cell? ⟨b, off + j * 4 + 3, none⟩ = some (ss.getD j .nul).vb)
  each : ∀ j, j < ss.length → IsB w (ss.getD j .nul).vb (ss.getD j .nul).xs

def ptrs (G : Nat → Nat) (t : Nat) : List Value := [if 0 < t then .pointer (some ⟨G 0, 0, none⟩) else .pointer none, if 1 < t then .pointer (some ⟨G 1, 0, none⟩) else .pointer none, if 2 < t then .pointer (some ⟨G 2, 0, none⟩) else .pointer none]
structure Some3 (w : World) (B gH gB : Nat) (G : Nat → Nat) (t : Nat) : Prop where
  aH : Arr w gH 36 (ptrs G t)
  aB : Arr w gB 37 [.slice none 0 0, .slice none 0 0, .slice none 0 0]
  hash : ∀ p, p < t → IsHash w (G p) []
  ne : ∀ p q, p < t → q < t → p ≠ q → G p ≠ G q
  lo : ∀ p, p < t → B ≤ G p
  loH : B ≤ gH
  loB : B ≤ gB
theorem Some3.all {w : World} {B gH gB : Nat} {G : Nat → Nat} (h : Some3 w B gH gB G 3) : Three w B gH gB G (fun _ => .slice none 0 0) (fun _ => []) :=
  ⟨h.aH, h.aB, h.hash, fun _ _ => Own8.nil _ _, h.ne, h.lo, h.loH, h.loB⟩
theorem Some3.cell {w : World} {B gH gB t : Nat} {G : Nat → Nat} (h : Some3 w B gH gB G t) (ht : t < 3) : w.cell? ⟨gH, t, none⟩ = some (.pointer none) := by
  rw [h.aH.cell]
  rcases (show t = 0 ∨ t = 1 ∨ t = 2 by omega) with rfl | rfl | rfl <;> rfl
theorem Some3.add {w w' : World} {B gH gB t g : Nat} {G : Nat → Nat} (h : Some3 w B gH gB G t) (ht : t < 3) (hb : Below w.heap.size w w') (hg0 : w.heap.size ≤ g) (hH : IsHash w' g []) (hB : B ≤ w.heap.size) : Some3 (w'.setCell ⟨gH, t, none⟩ (.pointer (some ⟨g, 0, none⟩))) B gH gB (upd G t g) (t + 1) := by
  have aH := h.aH.below hb
  have aB := h.aB.below hb
  have hg := grown_set w' gH t (.pointer (some ⟨g, 0, none⟩))
  have hlt : ∀ q, q < t → G q < w.heap.size := fun q hq => (h.hash q hq).lt
  refine ⟨?_, aB.other _ _ (Ne.symm (arr_ne aH aB (by decide))), fun p hp => ?_, fun p q hp hq e => ?_, fun p hp => ?_, h.loH, h.loB⟩
  · have e : (ptrs G t).set t (.pointer (some ⟨g, 0, none⟩)) = ptrs (upd G t g) (t + 1) := by
      rcases (show t = 0 ∨ t = 1 ∨ t = 2 by omega) with rfl | rfl | rfl <;> rfl
    rw [← e]
    exact aH.set t _
  · by_cases e : p = t
    · subst e
      rw [upd_eq]
      obtain ⟨c, hc⟩ := hH.arr
      exact hH.kept hg (arr_ne hc aH (by decide))
    · rw [upd_ne e]
      have h1 := (h.hash p (by omega)).below hb
      obtain ⟨c, hc⟩ := h1.arr
      exact h1.kept hg (arr_ne hc aH (by decide))
  · by_cases e1 : p = t
    · subst e1
      rw [upd_eq, upd_ne (Ne.symm e)]
      have := hlt q (by omega)
      omega
    · rw [upd_ne e1]
      by_cases e2 : q = t
      · subst e2; rw [upd_eq]; have := hlt p (by omega); omega
      · rw [upd_ne e2]; exact h.ne p q (by omega) (by omega) e
  · by_cases e : p = t
    · subst e; rw [upd_eq]; omega
    · rw [upd_ne e]; exact h.lo p (by omega)

theorem zero3H (w : World) : (zeroValue 36).run Tryd.prog w = .ok (.agg #[.pointer none, .pointer none, .pointer none]) w := by kernel_rfl
theorem zero3B (w : World) : (zeroValue 37).run Tryd.prog w = .ok (.agg #[.slice none 0 0, .slice none 0 0, .slice none 0 0]) w := by kernel_rfl

theorem bits_u8 (op : BinOp) (x y : Int) : 0 ≤ bits op .u8 x y ∧ bits op .u8 x y ≤ 255 := by
  unfold bits
  rw [IntKind.wrap_u8']
  omega
set_option maxRecDepth 100000 in
set_option maxHeartbeats 4000000 in
theorem plays_walk {w : World} {v : Value} {ss : List StepF} (h0 : IsSteps w v ss) (hT : Tabs w) :
    Calls Tryd.prog 4 #[v] w fun e w' => e = .returned (.bool true) ∧ Below w.heap.size w w' := by
  have HE := hide h0.each
  obtain ⟨⟨aS, cs, rfl, hsl, hsm, hsc⟩, _⟩ := h0
  have HT := hide hT
  have hKl := hT.ltK
  have hSl := hT.ltS
  have hke := keyV_eql
  have hkn := keyV_neq
  have hkg := keyV_guard
  obtain ⟨L, hL⟩ : ∃ L, L = ss.length := ⟨_, rfl⟩
  rw [← hL] at hsl hsc HE ⊢
  have HSC := hide hsc
  have hz3 := zero3H
  have hz3b := zero3B
  clear hT hsc hL
  go_enter Tryd.func4, Tryd.ntmps4
  go_wp2_with (go_at_call 9; refine (told_calls (unhide HT)).mono ?_; rintro e w1 ⟨rfl, hb1⟩)
  have hz1 := hb1.size
  have hS1 : Some3 ((w1.alloc (.cells #[.pointer none, .pointer none, .pointer none] 36)).alloc (.cells #[.slice none 0 0, .slice none 0 0, .slice none 0 0] 37)) w.heap.size w1.heap.size (w1.heap.size + 1) (fun _ => 0) 0 := by
    refine ⟨(Arr.new w1 [.pointer none, .pointer none, .pointer none] 36).alloc _, ?_, fun p hp => by omega, fun p q hp => by omega, fun p hp => by omega, hz1, by omega⟩
    have := Arr.new (w1.alloc (.cells #[.pointer none, .pointer none, .pointer none] 36)) [.slice none 0 0, .slice none 0 0, .slice none 0 0] 37
    rw [size_alloc] at this
    exact this
  have hx1 := below_then hb1 (below_then (lit_below w1 (.cells #[.pointer none, .pointer none, .pointer none] 36)) (lit_below _ (.cells #[.slice none 0 0, .slice none 0 0, .slice none 0 0] 37)))
  go_loopw [5] (fun i wr => ∃ (t : Nat) (G : Nat → Nat), t ≤ 3 ∧ i = .int .i64 (t : Int) ∧ Some3 wr w.heap.size w1.heap.size (w1.heap.size + 1) G t ∧ Below w.heap.size w wr) (fun i _ => 3 - (intOf i).toNat)
  case atStart => exact ⟨0, fun _ => 0, by omega, rfl, hS1, hx1⟩
  case round =>
    clear hS1 hx1
    obtain ⟨t, G, ht, rfl, hS, hx⟩ := hrel
    by_cases hlt : t < 3
    · have hc := hS.cell hlt
      have hf := hS.aH.frozen t
      have htI : (t : Int) < 3 := by omega
      have ht0 : (0 : Int) ≤ (t : Int) := by omega
      have HN : Hid (Calls Tryd.prog 15 #[] wr fun e w' => e = .returned (.pointer (some ⟨wr.heap.size, 0, none⟩)) ∧ IsHash w' wr.heap.size [] ∧ Below wr.heap.size wr w' ∧ w'.cell? ⟨w1.heap.size, t, none⟩ = some (.pointer none) ∧ w'.frozen? ⟨w1.heap.size, t, none⟩ = false) :=
        (shaNew_calls ((unhide HT).below hx).s).mono fun e w' ⟨h1, h2, h3⟩ => ⟨h1, h2, h3, (h3.cell hS.aH.lt).trans hc, (h3.frozen hS.aH.lt).trans hf⟩
      clear hc hf
      go_wp2_with (go_at_call 15; refine (unhide HN).mono ?_; rintro e w2 ⟨rfl, hH2, hb2, hc2, hf2⟩)
      go_roundw
      case rel => exact ⟨t + 1, _, by omega, by go_num, hS.add hlt hb2 (Nat.le_refl _) hH2 hx.size, (below_then hx hb2).setCell (p := ⟨w1.heap.size, t, none⟩) hz1 _⟩
      case measure => simp [intOf]; omega
    · have ht3 : t = 3 := by omega
      rw [ht3] at hS
      have h3 := hS.all
      clear ht3 hS hz3 hz3b
      go_wp2
      go_loopw [6, 7] (fun lf i wr => ∃ (k r : Nat) (G : Nat → Nat) (U : Nat → Value) (X : Nat → List Int), k ≤ L ∧ k ≤ 80 ∧ i = .int .i64 (k : Int) ∧ lf = .int .i64 (r : Int) ∧ r ≤ 70000 ∧ Hid (∀ p, p < 3 → (X p).length + r ≤ 70000) ∧ Three wr w.heap.size w1.heap.size (w1.heap.size + 1) G U X ∧ Below w.heap.size w wr) (fun _ i _ => L - (intOf i).toNat)
      case atStart => exact ⟨0, 70000, G, _, _, by omega, by omega, rfl, rfl, by omega, fun p hp => by simp, h3, hx⟩
      case round =>
        clear h3 hx
        obtain ⟨k, r, G, U, X, hk, hk80, rfl, rfl, hr7, HX, h3, hx⟩ := hrel
        by_cases hlt : k < L ∧ k < 80
        · obtain ⟨hlt1, hlt2⟩ := hlt
          obtain ⟨bs, os, rfl, hcell⟩ := unhide HSC (by omega)
          obtain ⟨c0, c1, c2, c3⟩ := hcell k hlt1
          have hB := unhide HE k hlt1
          have HCELL := hide hcell
          generalize ss.getD k .nul = st at *
          obtain ⟨K, O, T, vb, xs⟩ := st
          have hlt' := fun {o u} (h : w.cell? ⟨bs, o, none⟩ = some u) => (hx.cell (World.block_lt_of_cell? w _ h)).trans h
          have c0' := hlt' c0
          have c1' := hlt' c1
          have c2' := hlt' c2
          have c3' := hlt' c3
          clear hlt' c0 c1 c2 c3 hcell
          obtain ⟨ab, nb, cb, rfl⟩ := hB.shape
          have HO := pl_lt O
          have HTT := pl_lt T
          have hkI : (k : Int) < (L : Int) := by omega
          have hk8 : (k : Int) < 80 := by omega
          have hk0 : (0 : Int) ≤ (k : Int) := by omega
          go_upto_region 14 with fail
          have hA := Arr.new wr [.int .i64 K, .int .i64 O, .int .i64 T, .slice ab nb cb] 40
          have hbA := lit_below wr (.cells #[.int .i64 K, .int .i64 O, .int .i64 T, .slice ab nb cb] 40)
          have h3' := h3.below hbA
          have hx' := below_then hx hbA
          have d0 := hA.cell 0
          have d1 := hA.cell 1
          have d2 := hA.cell 2
          have d3 := hA.cell 3
          simp only [List.getElem?_cons_succ, List.getElem?_cons_zero] at d0 d1 d2 d3
          have hp3 := h3'.ptr (pl O) HO
          clear hA h3 hx c0' c1' c2' c3' hbA
          generalize wr.alloc (.cells #[.int .i64 K, .int .i64 O, .int .i64 T, .slice ab nb cb] 40) = W0 at *
          generalize wr.heap.size = gS at *
          have hoI : ((pl O : Nat) : Int) < 3 := by omega
          have ho0 : (0 : Int) ≤ ((pl O : Nat) : Int) := by omega
          have htI : ((pl T : Nat) : Int) < 3 := by omega
          have ht0 : (0 : Int) ≤ ((pl T : Nat) : Int) := by omega
          go_quiet ((go_at_call 16; exact Calls.quiet_of_same (place_calls _ _)))
          generalize pl O = o at *
          generalize pl T = p at *
          go_upto_region 20 with fail
          have hbd := below_drewN (Below.refl W0.heap.size W0) nq
          have h3 := h3'.below hbd
          have hx := below_then hx' hbd
          have e3 : (W0.drewN nq).cell? ⟨gS, 3, none⟩ = some (.slice ab nb cb) := d3
          clear h3' hx' d0 d1 d2 d3 hp3 hbd
          generalize W0.drewN nq = W at *
          have hpo := h3.ptr o HO
          have hpp := h3.ptr p HTT
          have hvo := h3.val o HO
          have hvp := h3.val p HTT
          have hfH := h3.aH.frozen
          have hfB := h3.aB.frozen
          have hHB := h3.HneB
          have hHo := h3.hash o HO
          have hUo := h3.own o HO
          have HLo := unhide HX o HO
          obtain ⟨ao, no, co, hUe⟩ := hUo.shape
          rw [hUe] at hvo
          have hno : no = (X o).length := by have := hUo.isB; rw [hUe] at this; exact this.lenEq
          have HNO := hide hno
          have HUE := hide hUe
          clear hno hUe
          have hT1 := (unhide HT).below hx
          by_cases hK3 : K = 3
          · subst hK3
            have HC : Hid (Calls Tryd.prog 21 #[.pointer (some ⟨G o, 0, none⟩)] W fun e w' => e = .returned (.pointer (some ⟨W.heap.size, 0, none⟩)) ∧ IsHash w' W.heap.size (X o) ∧ Below W.heap.size W w' ∧ (w'.cell? ⟨w1.heap.size, p, none⟩ = some (.pointer (some ⟨G p, 0, none⟩)) ∧ w'.frozen? ⟨w1.heap.size, p, none⟩ = false ∧ w'.cell? ⟨w1.heap.size + 1, o, none⟩ = some (.slice ao no co) ∧ w'.cell? ⟨w1.heap.size + 1, p, none⟩ = some (U p) ∧ w'.frozen? ⟨w1.heap.size + 1, p, none⟩ = false)) :=
              (shaCopy_calls hHo).mono fun e w' ⟨q1, q2, q3⟩ => ⟨q1, q2, q3, (q3.cell h3.aH.lt).trans hpp, (q3.frozen h3.aH.lt).trans (hfH p), (q3.cell h3.aB.lt).trans hvo, (q3.cell h3.aB.lt).trans hvp, (q3.frozen h3.aB.lt).trans (hfB p)⟩
            clear hfH hfB hvo hvp hpp
            go_wp2_with (go_at_call 21; refine (unhide HC).mono ?_; rintro e w2 ⟨rfl, hH2, hb2, f1, f2, f3, f4, f5⟩)
            have hN := h3.setG (p := p) (g := W.heap.size) HTT (Nat.le_refl _) hb2 hH2 (u := .slice ao no co) (by rw [← HUE.out]; exact hUo.below hb2) hx.size
            refine ⟨⟨k + 1, r, _, _, _, by omega, by omega, by go_num, rfl, hr7, fun q hq => ?_, hN, ((below_then hx hb2).setCell (p := ⟨w1.heap.size, p, none⟩) hz1 _).setCell (p := ⟨w1.heap.size + 1, p, none⟩) (by show _ ≤ w1.heap.size + 1; omega) _⟩, by simp [intOf]; omega⟩
            by_cases e : q = p
            · subst e; rw [upd_eq]; exact HLo
            · rw [upd_ne e]; exact unhide HX q hq
          · by_cases hK4 : K = 4
            · subst hK4
              have HC : Hid (Calls Tryd.prog 15 #[] W fun e w' => e = .returned (.pointer (some ⟨W.heap.size, 0, none⟩)) ∧ IsHash w' W.heap.size [] ∧ Below W.heap.size W w' ∧ (w'.cell? ⟨w1.heap.size, p, none⟩ = some (.pointer (some ⟨G p, 0, none⟩)) ∧ w'.frozen? ⟨w1.heap.size, p, none⟩ = false ∧ w'.cell? ⟨w1.heap.size + 1, p, none⟩ = some (U p) ∧ w'.frozen? ⟨w1.heap.size + 1, p, none⟩ = false)) :=
                (shaNew_calls hT1.s).mono fun e w' ⟨q1, q2, q3⟩ => ⟨q1, q2, q3, (q3.cell h3.aH.lt).trans hpp, (q3.frozen h3.aH.lt).trans (hfH p), (q3.cell h3.aB.lt).trans hvp, (q3.frozen h3.aB.lt).trans (hfB p)⟩
              clear hfH hfB hvo hvp hpp
              go_wp2_with (go_at_call 15; refine (unhide HC).mono ?_; rintro e w2 ⟨rfl, hH2, hb2, f1, f2, f3, f4⟩)
              have hN := h3.setG (p := p) (g := W.heap.size) HTT (Nat.le_refl _) hb2 hH2 (u := .slice none 0 0) (Own8.nil _ _) hx.size
              refine ⟨⟨k + 1, r, _, _, _, by omega, by omega, by go_num, rfl, hr7, fun q hq => ?_, hN, ((below_then hx hb2).setCell (p := ⟨w1.heap.size, p, none⟩) hz1 _).setCell (p := ⟨w1.heap.size + 1, p, none⟩) (by show _ ≤ w1.heap.size + 1; omega) _⟩, by simp [intOf]; omega⟩
              by_cases e : q = p
              · subst e; rw [upd_eq]; simp; omega
              · rw [upd_ne e]; exact unhide HX q hq
            · by_cases hK2 : K = 2
              · subst hK2
                have HLN : Hid (∀ W', Below W.heap.size W W' → Calls Tryd.prog 20 #[.pointer (some ⟨G o, 0, none⟩)] W' fun e w' => e = .returned (.int .i64 (no : Int)) ∧ w' = W') := fun W' hW => by
                  rw [HNO.out]
                  exact len_calls (hHo.below hW)
                have HSS : Hid (∀ W', Below W.heap.size W W' → (Below W.heap.size W W' ∧ W'.cell? ⟨w1.heap.size, o, none⟩ = some (.pointer (some ⟨G o, 0, none⟩)) ∧ W'.cell? ⟨w1.heap.size + 1, o, none⟩ = some (.slice ao no co))) := fun W' hW => ⟨hW, (hW.cell h3.aH.lt).trans hpo, (hW.cell h3.aB.lt).trans hvo⟩
                clear hfH hfB hvo hvp hpp hpo
                go_wp2_with fail
                go_region_held3 (fun W' => Below W.heap.size W W' ∧ W'.cell? ⟨w1.heap.size, o, none⟩ = some (.pointer (some ⟨G o, 0, none⟩)) ∧ W'.cell? ⟨w1.heap.size + 1, o, none⟩ = some (.slice ao no co))
                  ((refine unhide HSS _ ?_; repeat (first | assumption | exact Below.refl _ _ | refine Below.drew ?_ | exact lit_below _ _)))
                  (first
                    | (go_at_call 20; refine (unhide HLN _ (Below.drew (Below.refl _ _))).mono ?_; rintro e w2 ⟨rfl, hw2⟩; obtain rfl := hw2.symm))
                go_wp2
                have hbW : Below W.heap.size W W.drew := Below.drew (Below.refl _ _)
                exact ⟨⟨k + 1, r, G, U, X, by omega, by omega, by go_num, rfl, hr7, HX, h3.below hbW, below_then hx hbW⟩, by simp [intOf]; omega⟩
              · by_cases hK0 : K = 0
                · subst hK0
                  have hBW := hB.below hx
                  clear hfH hfB hvp hpp
                  go_wp2_with fail
                  refine (cut_calls hBW r (by omega)).mono ?_
                  rintro e w0 ⟨⟨m, rfl, hm0, hY⟩, hw0⟩
                  obtain rfl := hw0.symm
                  have hml := hY.lenEq
                  have hmr : m ≤ r := by rw [hml, List.length_take]; omega
                  have hY0 : IsB w (.slice ab m cb) (xs.take r) := by
                    have q1 := hB.cut (k := m) hm0
                    have e : xs.take m = xs.take r := by
                      rw [hml, List.length_take]
                      by_cases h : r ≤ xs.length
                      · rw [Nat.min_eq_left h]
                      · rw [Nat.min_eq_right (by omega), List.take_of_length_le (Nat.le_refl _), List.take_of_length_le (by omega)]
                    rw [e] at q1
                    exact q1
                  generalize xs.take r = ys at *
                  have HML := hide hml
                  have HY := hide hY
                  have HY0 := hide hY0
                  have hrm : (r : Int) - (m : Int) = ((r - m : Nat) : Int) := by omega
                  clear hBW hY hml hw0 hY0
                  go_wp2_with fail
                  refine (laid_calls (unhide HY) (by have := HML.out; omega)).mono ?_
                  rintro e w2 ⟨gi, ci, rfl, hI2, hb2⟩
                  have h32 := h3.below hb2
                  have hx2 := below_then hx hb2
                  have hpo2 := h32.ptr o HO
                  have hgi := hI2.lt
                  have hGo := (h3.hash o HO).lt
                  have hHl := h3.aH.lt
                  have hBl := h3.aB.lt
                  have HWR := hide (write_calls (h32.hash o HO) hI2.isB (fun _ ad had => by injection had with had; subst had; show gi ≠ _; omega) (by have := HML.out; omega) ((unhide HT).below hx2).k (by have := h3.lo o HO; omega))
                  clear hpo hvo
                  go_wp2_with fail
                  refine (unhide HWR).mono ?_
                  rintro e w3 ⟨⟨v3, rfl⟩, hH3, hg3⟩
                  obtain ⟨aH3, aB3, hh3, ho3⟩ := h32.wrote HO hg3 hH3
                  have hx3 := hx2.grown hg3 hx2.size (fun j hj => by injection hj with hj; have := h3.lo o HO; omega)
                  have hI3 := hI2.kept hg3 (by intro e9; injection e9 with e9; omega)
                  have HIN := hide (intact_calls hI3 ((unhide HY0).below hx3) (by have := HML.out; omega))
                  go_wp2_with fail
                  refine (unhide HIN).mono ?_
                  rintro e w4 ⟨rfl, hd4⟩
                  have hb4 := below_same hd4
                  have hvo4 := (aB3.below hb4).cell o
                  have hvo4' : w4.cell? ⟨w1.heap.size + 1, o, none⟩ = some (.slice ao no co) := by
                    rw [hvo4, ← HUE.out]
                    rcases (show o = 0 ∨ o = 1 ∨ o = 2 by omega) with rfl | rfl | rfl <;> rfl
                  have hUo4 : IsB w4 (.slice ao no co) (X o) := by
                    have q := (ho3 o HO).isB.below hb4
                    rw [HUE.out] at q
                    exact q
                  have hx4 := below_then hx3 hb4
                  have hY4 := (unhide HY0).below hx4
                  have hlen : (X o).length + ys.length ≤ 70000 := by have := HML.out; omega
                  have hz4 : W.heap.size ≤ w4.heap.size := Nat.le_trans hb2.size (Nat.le_trans hg3.size hb4.size)
                  clear hvo4 hd4
                  have hf6 : ∀ W', Below w4.heap.size w4 W' → W'.cell? ⟨w1.heap.size + 1, o, none⟩ = some (.slice ao no co) ∧ W'.frozen? ⟨w1.heap.size + 1, o, none⟩ = false := fun W' hW => ⟨(hW.cell (aB3.below hb4).lt).trans hvo4', (hW.frozen (aB3.below hb4).lt).trans ((aB3.below hb4).frozen o)⟩
                  have HF6 := hide hf6
                  clear hf6
                  go_wp2_with (first
                    | (at_builtin; refine wpList_appB rfl (.const (.slice none 0 0)) (.tmp 83) rfl (v := .slice none 0 0) rfl (Own8.nil w4 w4.heap.size) rfl hUo4 (by simp; omega) (Nat.le_refl _) ?_; intro v5 w5 hO5 hg5; rw [List.nil_append] at hO5; have hb5 := (Below.refl w4.heap.size w4).grown hg5 (Nat.le_refl _) (fun k hk => (by simp [Value.ownBlock] at hk)); have hY5 := hY4.below hb5)
                    | (at_builtin; refine wpList_appB rfl (.tmp 84) (.tmp 85) rfl rfl hO5 rfl hY5 (by omega) hb5.size ?_; intro v6 w6 hO6 hg6; have hb6 := hb5.grown hg6 hb5.size (fun k hk => (hO5.1.lt k hk).1); obtain ⟨a6, n6, c6, rfl⟩ := hO6.shape; obtain ⟨f61, f62⟩ := unhide HF6 w6 hb6))
                  have h37 : Three (w6.setCell ⟨w1.heap.size + 1, o, none⟩ (.slice a6 n6 c6)) w.heap.size w1.heap.size (w1.heap.size + 1) G (upd U o (.slice a6 n6 c6)) (upd X o (X o ++ ys)) := by
                    have hb46 := below_then hb4 hb6
                    refine Three.setU HO (U := U) (G := G) (X' := upd X o (X o ++ ys)) (aH3.below hb46) (aB3.below hb46) (fun q hq => (hh3 q hq).below hb46) (fun q hq e => ?_) ?_ h3.ne h3.lo h3.loH h3.loB
                    · rw [upd_ne e]; exact (ho3 q hq).below hb46
                    · rw [upd_eq]; exact hO6.mono hx4.size
                  have hx7 : Below w.heap.size w (w6.setCell ⟨w1.heap.size + 1, o, none⟩ (.slice a6 n6 c6)) := (below_then hx4 hb6).setCell (p := ⟨w1.heap.size + 1, o, none⟩) (by show _ ≤ w1.heap.size + 1; omega) _
                  have hI7 : IsLaid (w6.setCell ⟨w1.heap.size + 1, o, none⟩ (.slice a6 n6 c6)) W.heap.size gi m ci ys := ((hI3.below hb4).below hb6).kept (grown_set w6 (w1.heap.size + 1) o _) (by intro e9; injection e9 with e9; omega)
                  have HNE : Hid (∀ q, q < 3 → (upd U o (.slice a6 n6 c6) q).ownBlock ≠ some gi) := fun q hq e9 => by
                    by_cases e : q = o
                    · subst e
                      rw [upd_eq] at e9
                      have := (hO6.1.lt gi e9).1
                      have := hI3.lt
                      have := hb4.size
                      omega
                    · rw [upd_ne e] at e9
                      have := ((h3.own q hq).1.lt gi e9).2
                      omega
                  have HGP : Hid (∀ q, q < 3 → G q ≠ gi) := fun q hq => by have := (h3.hash q hq).lt; omega
                  have HX2 : Hid (∀ q, q < 3 → (upd X o (X o ++ ys) q).length + (r - m) ≤ 70000) := fun q hq => by
                    by_cases e : q = o
                    · subst e; rw [upd_eq, List.length_append]; have := HML.out; omega
                    · rw [upd_ne e]; have := unhide HX q hq; omega
                  clear HX hO6 hg6 hO5 hg5 hb5 hb6 hY5 f61 f62 HF6 hUo4 hvo4' hY4 aH3 aB3 hh3 ho3 hI3 hI2 h32 hH3 hg3 hx4 hx3 hx2 hpo2 HWR HIN h3 hHo hUo hT1 hb4 hb2 HY HY0 hx
                  generalize w6.setCell ⟨w1.heap.size + 1, o, none⟩ (.slice a6 n6 c6) = w7 at *
                  generalize upd U o (.slice a6 n6 c6) = U' at *
                  generalize upd X o (X o ++ ys) = X' at *
                  go_loopw [13] (fun i wr => ∃ (j : Nat) (zs : List Int), j ≤ m ∧ i = .int .i64 (j : Int) ∧ IsLaid wr W.heap.size gi m ci zs ∧ Three wr w.heap.size w1.heap.size (w1.heap.size + 1) G U' X' ∧ Below w.heap.size w wr) (fun i _ => m - (intOf i).toNat)
                  case atStart => exact ⟨0, ys, by omega, rfl, hI7, h37, hx7⟩
                  case round =>
                    clear hI7 h37 hx7
                    obtain ⟨j, zs, hj, rfl, hI, h3, hx⟩ := hrel
                    by_cases hjm : j < m
                    · have hcj := hI.cell j (by omega)
                      have hfj := hI.frozen j
                      have hj0 : (0 : Int) ≤ (j : Int) := by omega
                      have hjI : (j : Int) < (m : Int) := by omega
                      have HSET : Hid (∀ x : Int, 0 ≤ x → x ≤ 255 → IsLaid (wr.setCell ⟨gi, j, none⟩ (.int .u8 x)) W.heap.size gi m ci (zs.set j x) ∧ Three (wr.setCell ⟨gi, j, none⟩ (.int .u8 x)) w.heap.size w1.heap.size (w1.heap.size + 1) G U' X' ∧ Below w.heap.size w (wr.setCell ⟨gi, j, none⟩ (.int .u8 x))) := fun x q0 q1 =>
                        ⟨hI.set hjm ⟨q0, q1⟩, h3.kept (grown_set wr gi j _) (by omega) (by omega) (unhide HGP) (unhide HNE), hx.setCell (p := ⟨gi, j, none⟩) (by show _ ≤ gi; omega) _⟩
                      generalize (zs ++ marks).getD j 0 = y at *
                      have hby := bits_u8 .xor y 255
                      generalize hbx : bits .xor .u8 y 255 = y2 at *
                      clear hI h3 hx
                      go_wp2
                      obtain ⟨q1, q2, q3⟩ := unhide HSET y2 hby.1 hby.2
                      exact ⟨⟨j + 1, _, by omega, by go_num, q1, q2, q3⟩, by simp [intOf]; omega⟩
                    · go_wp2
                      exact ⟨⟨k + 1, r - m, G, U', X', by omega, by omega, by go_num, rfl, by omega, HX2, h3, hx⟩, by simp [intOf]; omega⟩
                · have HRS : Hid (∀ W', Below W.heap.size W W' → Calls Tryd.prog 12 #[.slice ao no co] W' fun e w' => e = .returned (keyV (X o)) ∧ Below W'.heap.size W' w') := fun W' hW => by
                    have h1 := hUo.isB.below hW
                    rw [HUE.out] at h1
                    exact rsum_calls h1 (by omega)
                  have HKY : Hid (∀ W', Below W.heap.size W W' → Calls Tryd.prog 22 #[.pointer (some ⟨G o, 0, none⟩)] W' fun e w' => e = .returned (keyV (X o)) ∧ Below W'.heap.size W' w') := fun W' hW => keys_calls (hHo.below hW) (hT1.k.below hW)
                  have HSS : Hid (∀ W', Below W.heap.size W W' → (Below W.heap.size W W' ∧ W'.cell? ⟨w1.heap.size, o, none⟩ = some (.pointer (some ⟨G o, 0, none⟩)) ∧ W'.cell? ⟨w1.heap.size + 1, o, none⟩ = some (.slice ao no co))) := fun W' hW => ⟨hW, (hW.cell h3.aH.lt).trans hpo, (hW.cell h3.aB.lt).trans hvo⟩
                  have hk0' : (K == 0) = false := by simpa using hK0
                  have hk2' : (K == 2) = false := by simpa using hK2
                  have hk3' : (K == 3) = false := by simpa using hK3
                  have hk4' : (K == 4) = false := by simpa using hK4
                  clear hfH hfB hvo hvp hpp hpo
                  go_wp2_with fail
                  go_region_held3 (fun W' => Below W.heap.size W W' ∧ W'.cell? ⟨w1.heap.size, o, none⟩ = some (.pointer (some ⟨G o, 0, none⟩)) ∧ W'.cell? ⟨w1.heap.size + 1, o, none⟩ = some (.slice ao no co))
                    ((refine unhide HSS _ ?_; repeat (first | assumption | exact Below.refl _ _ | refine Below.drew ?_ | exact lit_below _ _)))
                    (first
                      | (go_at_call 22; refine (unhide HKY _ (Below.drew (Below.refl _ _))).mono ?_; rintro e w2 ⟨rfl, hb2⟩; have hB2 : Below W.heap.size W w2 := below_drew hb2)
                      | (go_at_call 12; refine (unhide HRS _ hB2).mono ?_; rintro e w4 ⟨rfl, hb4⟩; have hB4 : Below W.heap.size W w4 := below_then hB2 hb4))
                  go_wp2
                  exact ⟨⟨k + 1, r, G, U, X, by omega, by omega, by go_num, rfl, hr7, HX, h3.below hB4, below_then hx hB4⟩, by simp [intOf]; omega⟩
        · have hkk : ¬ ((k : Int) < (L : Int) ∧ (k : Int) < 80) := by omega
          have HN : Hid (∀ (q : Nat) (W : World), q < 3 → Below wr.heap.size wr W → ∃ ao no co, W.cell? ⟨w1.heap.size, q, none⟩ = some (.pointer (some ⟨G q, 0, none⟩)) ∧ W.cell? ⟨w1.heap.size + 1, q, none⟩ = some (.slice ao no co) ∧
              (∀ W', Below W.heap.size W W' → (Below W.heap.size W W' ∧ W'.cell? ⟨w1.heap.size, q, none⟩ = some (.pointer (some ⟨G q, 0, none⟩)) ∧ W'.cell? ⟨w1.heap.size + 1, q, none⟩ = some (.slice ao no co))) ∧
              (∀ W', Below W.heap.size W W' → Calls Tryd.prog 20 #[.pointer (some ⟨G q, 0, none⟩)] W' fun e w' => e = .returned (.int .i64 (no : Int)) ∧ w' = W') ∧
              (∀ W', Below W.heap.size W W' → Calls Tryd.prog 22 #[.pointer (some ⟨G q, 0, none⟩)] W' fun e w' => e = .returned (keyV (X q)) ∧ Below W'.heap.size W' w') ∧
              (∀ W', Below W.heap.size W W' → Calls Tryd.prog 12 #[.slice ao no co] W' fun e w' => e = .returned (keyV (X q)) ∧ Below W'.heap.size W' w')) := fun q W hq hW => by
            have h4 := h3.below hW
            have hT4 := (unhide HT).below (below_then hx hW)
            obtain ⟨ao, no, co, hUe⟩ := (h4.own q hq).shape
            have hv := h4.val q hq
            have hp := h4.ptr q hq
            have hu := (h4.own q hq).isB
            rw [hUe] at hv hu
            have hn := hu.lenEq
            have hl := unhide HX q hq
            refine ⟨ao, no, co, hp, hv, fun W' hW' => ⟨hW', (hW'.cell h4.aH.lt).trans hp, (hW'.cell h4.aB.lt).trans hv⟩, fun W' hW' => ?_, fun W' hW' => keys_calls ((h4.hash q hq).below hW') (hT4.k.below hW'), fun W' hW' => rsum_calls (hu.below hW') (by omega)⟩
            rw [hn]
            exact len_calls ((h4.hash q hq).below hW')
          clear h3
          go_upto_region 41 with fail
          all_goals
            go_wp2
            have hx0 := hx
            generalize wr = wL at *
            go_loopw [14] (fun i wr => ∃ q : Nat, q ≤ 3 ∧ i = .int .i64 (q : Int) ∧ Below wL.heap.size wL wr) (fun i _ => 3 - (intOf i).toNat)
            case atStart => exact ⟨0, by omega, rfl, Below.refl _ _⟩
            case round =>
              obtain ⟨q, hq, rfl, hy⟩ := hrel
              by_cases hq3 : q < 3
              · obtain ⟨ao, no, co, hc1, hc2, hSS, hLN, hKY, hRS⟩ := unhide HN q wr hq3 hy
                have HSS := hide hSS
                have HLN := hide hLN
                have HKY := hide hKY
                have HRS := hide hRS
                have hqI : (q : Int) < 3 := by omega
                have hq0 : (0 : Int) ≤ (q : Int) := by omega
                clear hSS hLN hKY hRS hc1 hc2
                go_wp2_with fail
                go_region_held3 (fun W' => Below wr.heap.size wr W' ∧ W'.cell? ⟨w1.heap.size, q, none⟩ = some (.pointer (some ⟨G q, 0, none⟩)) ∧ W'.cell? ⟨w1.heap.size + 1, q, none⟩ = some (.slice ao no co))
                  ((refine unhide HSS _ ?_; repeat (first | assumption | exact Below.refl _ _ | refine Below.drew ?_ | exact lit_below _ _)))
                  (first
                    | (go_at_call 20; refine (unhide HLN _ (by repeat (first | assumption | exact Below.refl _ _ | refine Below.drew ?_))).mono ?_; rintro e w2 ⟨rfl, hw2⟩; obtain rfl := hw2.symm)
                    | (go_at_call 22; refine (unhide HKY _ (by repeat (first | assumption | exact Below.refl _ _ | refine Below.drew ?_))).mono ?_; rintro e w2 ⟨rfl, hb2⟩; have hB2 : Below wr.heap.size wr w2 := (by first | exact below_drew hb2 | exact below_then (by assumption) hb2))
                    | (go_at_call 12; refine (unhide HRS _ (by repeat (first | assumption | exact Below.refl _ _ | refine Below.drew ?_))).mono ?_; rintro e w4 ⟨rfl, hb4⟩; have hB4 : Below wr.heap.size wr w4 := below_then (by assumption) hb4))
                go_wp2
                exact ⟨⟨q + 1, by omega, by go_num, below_then hy (by assumption)⟩, by simp [intOf]; omega⟩
              · go_wp2
                go_ret
                exact ⟨rfl, below_then hx0 hy⟩
end Go.Proofs.YtmnmnepiikeomaaDoor
