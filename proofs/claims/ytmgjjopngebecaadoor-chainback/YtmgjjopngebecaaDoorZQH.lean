/- chain: the document's sector. chain: the piece of a sector; whether bytes are a piece's sector. Parts of a slice of bytes, wherever it lies: what the expression yields, as one equation. -/
import Derived.Test.YtmgjjopngebecaaDoorZQF
import Derived.Test.YtmgjjopngebecaaDoorZQG
import Derived.Test.YtmgjjopngebecaaDoorZQD
namespace Go.Proofs.YtmgjjopngebecaaDoor
open Go.RowKit Go.Maps

def lenOf : Value → Nat
  | .slice _ n _ => n
  | _ => 0
theorem below_own8 {B : Nat} {w w0 w' : World} {v : Value} {xs : List Int} (h : Below B w0 w) (ho : Own8 w B v xs) (hg : w.grownBy w' v.ownBlock) (hB : B ≤ w.heap.size) : Below B w0 w' := h.grown hg hB (fun k hk => (World.ownsRow.lt ho.1 k hk).1)
theorem refSectors_calls (n : Int) (w : World) : Calls Tryd.prog 8 #[.int .i64 n] w fun e w' => e = .returned (.int .i64 (secN n)) ∧ w' = w := by
  by_cases h1 : n < 0
  · rw [show secN n = 0 by unfold secN; rw [if_pos h1]]
    go_enter Tryd.func8, Tryd.ntmps8
    go_wp2
    go_ret
    exact ⟨rfl, rfl⟩
  · by_cases h2 : 1048576 < n
    · have h3 : decide (n < 0) = false := by simpa using h1
      rw [show secN n = 0 by unfold secN; rw [if_neg h1, if_pos h2]]
      go_enter Tryd.func8, Tryd.ntmps8
      go_wp2
      go_ret
      exact ⟨rfl, rfl⟩
    · have h3 : decide (n < 0) = false := by simpa using h1
      have h4 : decide (1048576 < n) = false := by simpa using h2
      by_cases h5 : n = 0
      · subst h5
        rw [show secN 0 = 1 by decide]
        go_enter Tryd.func8, Tryd.ntmps8
        go_wp2
        go_ret
        exact ⟨rfl, rfl⟩
      · have e1 : IntKind.i64.wrap (n + 480) = n + 480 := IntWalk.i64_in _ (by omega)
        have e2 : IntKind.i64.wrap (n + 480 - 1) = n + 479 := by rw [show n + 480 - 1 = n + 479 by omega]; exact IntWalk.i64_in _ (by omega)
        rw [show secN n = (n + 479) / 480 by unfold secN; rw [if_neg h1, if_neg h2]; omega]
        go_enter Tryd.func8, Tryd.ntmps8
        go_wp2
        go_ret
        exact ⟨rfl, rfl⟩
theorem refNumber_calls {w : World} {V : Int} {n : Nat} (h0 : 0 ≤ V) (h1 : 1 ≤ n) (h8 : n ≤ 8) (hz : V / 2 ^ (8 * n) = 0) (hV : V ≤ 9223372036854775807) :
    Calls Tryd.prog 66 #[.int .i64 V, .int .i64 (n : Int)] w fun e w' => ∃ v, e = .returned v ∧ Own8 w' w.heap.size v (fB V n) ∧ Below w.heap.size w w' := by
  have HX := hide (refFixed_in V n w h0 (by omega) h1 h8)
  have hw : IntKind.u64.wrap V = V := by rw [IntKind.wrap_u64]; omega
  have HZ := hide hz
  clear hz
  go_enter Tryd.func66, Tryd.ntmps66
  go_wp2_with fail
  refine (unhide HX).mono ?_
  rintro e w1 ⟨hor, hb⟩
  obtain ⟨v, rfl, hr⟩ : ∃ v, e = .returned (.tuple #[v, .int .i64 0]) ∧ w1.ownsRow w.heap.size 5 1 v n ((fB V n).map (Value.int .u8)) := by
    rcases hor with ⟨h, _⟩ | ⟨_, v, h, h2⟩
    · rw [HZ.out] at h; cases h
    · exact ⟨v, h, h2⟩
  have HR := hide hr
  have HB := hide hb
  clear HX hor hr hb HZ
  go_wp2
  go_ret
  exact ⟨v, rfl, ⟨by rw [fB_len]; exact HR.out, fun x hx => fB_bytes V n x hx⟩, HB.out⟩
end Go.Proofs.YtmgjjopngebecaaDoor

namespace Go.Proofs.YtmgjjopngebecaaDoor
open Go.RowKit Go.Maps

/-- A ref's cells. -/
def refV (hs : List Int) (fi le : Int) : List Value := hs.map (Value.int .u8) ++ [.int .i64 fi, .int .i64 le]
theorem refV_len {hs : List Int} (hh : hs.length = 32) (fi le : Int) : (refV hs fi le).length = 34 := by simp [refV, hh]
theorem refV_32 {hs : List Int} (hh : hs.length = 32) (fi le : Int) : (refV hs fi le)[32]? = some (.int .i64 fi) := by
  unfold refV
  rw [List.getElem?_append_right (by simp [hh]), List.length_map, hh]
  rfl
theorem refV_33 {hs : List Int} (hh : hs.length = 32) (fi le : Int) : (refV hs fi le)[33]? = some (.int .i64 le) := by
  unfold refV
  rw [List.getElem?_append_right (by simp [hh]), List.length_map, hh]
  rfl
/-- How many bytes the piece of that place has. -/
def cntI (le place : Int) : Int := min 480 (le - place * 480)
theorem cnt_ok {le place : Int} (h0 : 0 ≤ place) (h1 : place < secN le) : 0 ≤ cntI le place ∧ cntI le place ≤ 480 ∧ 0 ≤ le ∧ le ≤ 1048576 := by
  unfold secN at h1
  unfold cntI
  split at h1
  · omega
  · split at h1 <;> omega
set_option maxRecDepth 100000 in
theorem pieceIn_calls {w : World} {bb bo bc c : Nat} {hs : List Int} {fi le place : Int} (hh : hs.length = 32) (h0 : 0 ≤ place) (h1 : place < secN le) (hc : cntI le place = (c : Int)) (hbc : 512 ≤ bc) (hbm : bc ≤ 9223372036854775807) :
    Calls Tryd.prog 31 #[.slice (some ⟨bb, bo, none⟩) 512 bc, .agg (refV hs fi le).toArray, .int .i64 place] w fun e w' => e = .returned (.slice (some ⟨bb, bo + 28, none⟩) c (bc - 28)) ∧ Below w.heap.size w w' := by
  have hk := cnt_ok h0 h1
  have hs9 := secN_hi le
  have hb0 := (Below.refl w.heap.size w).alloc (Nat.le_refl _) (.cells (refV hs fi le).toArray 26)
  have hc33 : (w.alloc (.cells (refV hs fi le).toArray 26)).cell? ⟨w.heap.size, 33, none⟩ = some (.int .i64 le) := arr_cell (Arr.new w (refV hs fi le) 26) (refV_33 hh fi le)
  have e1 : IntKind.i64.wrap (place * 480) = place * 480 := IntWalk.i64_in _ (by omega)
  have hbn : ¬ bc = 28 := by omega
  have hcs : cntI le place = (c : Int) := hc
  unfold cntI at hcs
  obtain ⟨s, hs⟩ : ∃ s, s = 28 + c := ⟨_, rfl⟩
  have hs1 : (28 : Int) ≤ (s : Int) := by omega
  have hs2 : (s : Int) ≤ (bc : Int) := by omega
  have HB := hide hb0
  have HS := hide hs
  clear hb0 hc hh
  by_cases hlt : le - place * 480 < 480
  · have e2 : IntKind.i64.wrap (le - place * 480) = (c : Int) := by rw [show le - place * 480 = (c : Int) by omega]; exact IntWalk.i64_in _ (by omega)
    have e5 : (c : Int) < 480 := by omega
    have e4 : IntKind.i64.wrap (28 + (c : Int)) = (s : Int) := by rw [show 28 + (c : Int) = (s : Int) by omega]; exact IntWalk.i64_in _ (by omega)
    clear hk hs9 hcs hlt hs h0 h1
    go_enter Tryd.func31, Tryd.ntmps31
    go_wp2
    go_ret
    exact ⟨by rw [HS.out]; simp, HB.out⟩
  · obtain ⟨x, hx⟩ : ∃ x, x = le - place * 480 := ⟨_, rfl⟩
    have e2 : IntKind.i64.wrap (le - place * 480) = x := by rw [← hx]; exact IntWalk.i64_in _ (by omega)
    have e5 : ¬ x < 480 := by omega
    have e6 : (480 : Int) ≤ x := by omega
    have hc480 : c = 480 := by omega
    subst hc480
    have hs508 : s = 508 := by omega
    subst hs508
    have HX := hide hx
    clear hk hs9 hcs hlt hs hx h0 h1 HS
    go_enter Tryd.func31, Tryd.ntmps31
    go_wp2
    go_ret
    exact ⟨rfl, HB.out⟩
theorem equal_calls {w : World} {va vb : Value} {xs ys : List Int} (ha : IsB w va xs) (hb : IsB w vb ys) : Calls Tryd.prog 29 #[va, vb] w fun e w' => e = .returned (.bool (decide (xs = ys))) ∧ w' = w := by
  have c1 := conv_isB ha
  have c2 := conv_isB hb
  have he : ((mkS xs).toList == (mkS ys).toList) = decide (xs = ys) := by
    rw [Bool.eq_iff_iff, beq_iff_eq, decide_eq_true_iff, ByteArray.toList_eq, ByteArray.toList_eq]
    exact ⟨fun h => mkS_inj ha.mem hb.mem (congrArg ByteArray.mk (Array.toList_inj.1 h)), fun h => by rw [h]⟩
  clear ha hb
  go_enter Tryd.func29, Tryd.ntmps29
  go_wp2
  go_ret
  exact ⟨by rfl, rfl⟩
theorem same6_calls {w : World} {va vb : Value} {xs ys : List Int} (ha : IsB w va xs) (hb : IsB w vb ys) : Calls Tryd.prog 11 #[va, vb] w fun e w' => e = .returned (.bool (decide (xs = ys))) ∧ w' = w := by
  have c1 := conv_isB ha
  have c2 := conv_isB hb
  have he : ((mkS xs).toList == (mkS ys).toList) = decide (xs = ys) := by
    rw [Bool.eq_iff_iff, beq_iff_eq, decide_eq_true_iff, ByteArray.toList_eq, ByteArray.toList_eq]
    exact ⟨fun h => mkS_inj ha.mem hb.mem (congrArg ByteArray.mk (Array.toList_inj.1 h)), fun h => by rw [h]⟩
  clear ha hb
  go_enter Tryd.func11, Tryd.ntmps11
  go_wp2
  go_ret
  exact ⟨by rfl, rfl⟩
end Go.Proofs.YtmgjjopngebecaaDoor

namespace Go.Proofs.YtmgjjopngebecaaDoor
open Go.RowKit

theorem elemSl : Tryd.prog.underlying 22 = some (.slice (Tryd.prog.elem 22)) := by kernel_rfl
theorem sizeSl (W : World) : (sizeOf (Tryd.prog.elem 22)).run Tryd.prog W = .ok 1 W := by kernel_rfl
/-- Where a part of a slice lies. -/
def subA (a : Option Addr) (cap q : Nat) : Option Addr := if cap = q then a else a.map (·.add q)
theorem IsB.sub {w : World} {a : Option Addr} {n cap : Nat} {xs : List Int} (h : IsB w (.slice a n cap) xs) {q t : Nat} (hq : q ≤ t) (ht : t ≤ n) : IsB w (.slice (subA a cap q) (t - q) (cap - q)) ((xs.drop q).take (t - q)) := by
  have hn := h.lenEq
  obtain ⟨hb, a', cp, hv, hl, hm, hz, hc⟩ := h
  injection hv with e1 e2 e3
  subst e1 e3
  have hlen : ((xs.drop q).take (t - q)).length = t - q := by simp; omega
  have hg : ∀ j, j < t - q → ((xs.drop q).take (t - q))[j]? = xs[q + j]? := fun j hj => by rw [List.getElem?_take_of_lt hj, List.getElem?_drop]
  refine ⟨fun j => ?_, subA a cap q, cap - q, by rw [hlen], by omega, by omega, fun h => ?_, fun hp => ?_⟩
  · by_cases hj : j < t - q
    · rw [hg j hj]; exact hb (q + j)
    · rw [List.getElem?_eq_none (by omega)]; simp
  · unfold subA at h
    by_cases e : cap = q
    · omega
    · rw [if_neg e] at h
      have : a = none := by simpa using h
      have := hz this
      omega
  · obtain ⟨b, off, ha, hcell⟩ := hc (by omega)
    refine ⟨b, off + q, ?_, fun j hj => ?_⟩
    · unfold subA
      rw [if_neg (by omega), ha, Option.map_some, Addr.add_lit]
    · rw [hlen] at hj
      rw [Nat.add_assoc, hcell (q + j) (by omega), List.getD_eq_getElem?_getD, List.getD_eq_getElem?_getD, hg j hj]
theorem sub_block {a : Option Addr} {cap q B : Nat} (h : ∀ ad, a = some ad → ad.block < B) : ∀ ad, subA a cap q = some ad → ad.block < B := by
  intro ad had
  unfold subA at had
  by_cases e : cap = q
  · rw [if_pos e] at had; exact h ad had
  · rw [if_neg e] at had
    cases a with
    | none => simp at had
    | some ad0 =>
      simp only [Option.map_some, Option.some.injEq] at had
      have e : (ad0.add q).block = ad0.block := by unfold Addr.add; split <;> rfl
      rw [← had, e]
      exact h ad0 rfl
theorem slice_lh (a : Option Addr) (n cap q t : Nat) (hq : q ≤ t) (ht : t ≤ cap) (W : World) : (Instr.sliceAt 22 (.slice a n cap) (some (.int .i64 (q : Int))) (some (.int .i64 (t : Int))) none).run Tryd.prog W = .ok (.slice (subA a cap q) (t - q) (cap - q)) W := by
  rw [run_sliceAt_slice W _ _ _ _ _ elemSl, run_slice_lh W _ a n cap elemSl .i64 .i64 q t (by omega) (by omega) (by omega), sizeSl]
  simp [Result.andThen, sliced, subA]
theorem slice_h (a : Option Addr) (n cap t : Nat) (ht : t ≤ cap) (W : World) : (Instr.sliceAt 22 (.slice a n cap) none (some (.int .i64 (t : Int))) none).run Tryd.prog W = .ok (.slice (subA a cap 0) t cap) W := by
  rw [run_sliceAt_slice W _ _ _ _ _ elemSl, run_slice_h W _ a n cap elemSl .i64 t (by omega) (by omega), sizeSl]
  simp [Result.andThen, sliced, subA]
theorem slice_l (a : Option Addr) (n cap q : Nat) (hq : q ≤ n) (W : World) : (Instr.sliceAt 22 (.slice a n cap) (some (.int .i64 (q : Int))) none none).run Tryd.prog W = .ok (.slice (subA a cap q) (n - q) (cap - q)) W := by
  rw [run_sliceAt_slice W _ _ _ _ _ elemSl, run_slice_l W _ a n cap elemSl .i64 q (by omega) (by omega), sizeSl]
  simp [Result.andThen, sliced, subA]
end Go.Proofs.YtmgjjopngebecaaDoor
