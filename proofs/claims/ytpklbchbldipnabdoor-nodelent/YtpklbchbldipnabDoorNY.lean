/- The reader: number, count. Parts of a slice of bytes, wherever it lies: what the expression yields, as one equation. -/
import Derived.Test.YtpklbchbldipnabDoorNV
import Derived.Test.YtpklbchbldipnabDoorNW
import Derived.Test.YtpklbchbldipnabDoorNX
import Derived.Test.YtpklbchbldipnabDoorNA
namespace Go.Proofs.YtpklbchbldipnabDoor
open Go.RowKit Go.Maps

/-- A reader of bytes that lay there at the beginning. -/
structure Rdr (w W : World) (g : Nat) (v : Value) (p : Nat) : Prop where
  blk : Arr W g 73 [v, .int .i64 (p : Int)]
  old : Below w.heap.size w W
  new : w.heap.size ≤ g
theorem Rdr.c0 {w W : World} {g : Nat} {v : Value} {p : Nat} (h : Rdr w W g v p) : W.cell? ⟨g, 0, none⟩ = some v := by rw [h.blk.cell 0]; rfl
theorem Rdr.c1 {w W : World} {g : Nat} {v : Value} {p : Nat} (h : Rdr w W g v p) : W.cell? ⟨g, 1, none⟩ = some (.int .i64 (p : Int)) := by rw [h.blk.cell 1]; rfl
theorem Rdr.below {w W W' : World} {g : Nat} {v : Value} {p : Nat} (h : Rdr w W g v p) (hb : Below W.heap.size W W') : Rdr w W' g v p := ⟨h.blk.below hb, h.old.trans (hb.mono h.old.size), h.new⟩
theorem Rdr.put {w W : World} {g : Nat} {v : Value} {p : Nat} (h : Rdr w W g v p) (q : Nat) : Rdr w (W.setCell ⟨g, 1, none⟩ (.int .i64 (q : Int))) g v q :=
  ⟨by have := h.blk.set 1 (.int .i64 (q : Int)); exact this, h.old.setCell (p := ⟨g, 1, none⟩) h.new _, h.new⟩
theorem grown_put (W : World) (g j : Nat) (v : Value) : W.grownBy (W.setCell ⟨g, j, none⟩ v) (some g) :=
  ⟨rfl, rfl, rfl, by simp, fun k _ hne => Below.heap_setCell W ⟨g, j, none⟩ v k (fun e => hne (by rw [e]))⟩
def gaveUp (x : Int) : Ending := .panicked [{ v := .iface 26 (.int .i64 x), recovered := false }]
theorem demand_cases (b : Bool) (x : Int) (w : World) : Calls Tryd.prog 57 #[.bool b, .int .i64 x] w fun e w' => (if b then e = .returned (.tuple #[]) else e = gaveUp x) ∧ w' = w := by
  cases b
  · exact demand_no x w
  · exact demand_ok x w
set_option maxRecDepth 100000 in
set_option maxHeartbeats 4000000 in
theorem number_ok {w W : World} {g n c p size : Nat} {a : Option Addr} {xs : List Int} (hr : Rdr w W g (.slice a n c) p) (hb : IsB w (.slice a n c) xs) (h1 : 1 ≤ size) (h4 : size ≤ 4) (hp : p + size ≤ n) :
    Calls Tryd.prog 58 #[.pointer (some ⟨g, 0, none⟩), .int .i64 (size : Int)] W fun e w' => e = .returned (.int .i64 (leN ((xs.drop p).take size))) ∧ Rdr w w' g (.slice a n c) (p + size) ∧ W.grownBy w' (some g) := by
  have hn := hb.lenEq
  have hne : rdF xs (p : Int) (size : Int) = (leN ((xs.drop p).take size), (p : Int) + (size : Int), 0) := by
    unfold rdF
    rw [if_neg (by omega), if_neg (by omega), if_neg (by omega)]
    simp
  have HV : Hid (0 ≤ leN ((xs.drop p).take size) ∧ leN ((xs.drop p).take size) < 4294967296) := by
    have h := fB_leN (l := (xs.drop p).take size) (fun x hx => hb.mem x (List.mem_of_mem_drop (List.mem_of_mem_take hx)))
    have hl : ((xs.drop p).take size).length ≤ 4 := by rw [List.length_take]; omega
    refine ⟨h.2.1, Int.lt_of_lt_of_le h.2.2 ?_⟩
    have : (2 : Int) ^ (8 * ((xs.drop p).take size).length) ≤ 2 ^ 32 := by exact_mod_cast Nat.pow_le_pow_right (by decide : 0 < 2) (show 8 * ((xs.drop p).take size).length ≤ 32 by omega)
    have e : (2 : Int) ^ 32 = 4294967296 := by decide
    omega
  have HRF : Hid (∀ W', Below W.heap.size W W' → Calls Tryd.prog 71 #[.slice a n c, .int .i64 (p : Int), .int .i64 (size : Int)] W' fun e w' => e = .returned (.tuple #[.int .u64 (leN ((xs.drop p).take size)), .int .i64 ((p : Int) + (size : Int)), .int .i64 0]) ∧ w' = W') := fun W' hW => by
    have := rfixed_calls (hb.below (hr.below hW).old) (p : Int) (size : Int)
    rw [hne] at this
    exact this
  have hpn : n ≤ 9223372036854775807 := by have := hb.len; omega
  have hcast : ((p + size : Nat) : Int) = (p : Int) + (size : Int) := by omega
  have HC := hide hcast
  have HR := hide hr
  generalize leN ((xs.drop p).take size) = y at *
  have hy0 := HV.out.1
  have hy1 := HV.out.2
  have HS : Hid (∀ W', Below W.heap.size W W' → W'.cell? ⟨g, 0, none⟩ = some (.slice a n c) ∧ W'.cell? ⟨g, 1, none⟩ = some (.int .i64 (p : Int))) := fun W' hW => ⟨(HR.out.below hW).c0, (HR.out.below hW).c1⟩
  have HFR : Hid (∀ W', Below W.heap.size W W' → W'.frozen? ⟨g, 1, none⟩ = false) := fun W' hW => (HR.out.below hW).blk.frozen 1
  clear hr hb hn hne hcast
  go_enter Tryd.func58, Tryd.ntmps58
  go_wp2_with fail
  focus (go_region_held3 (fun W' => W'.cell? ⟨g, 0, none⟩ = some (.slice a n c) ∧ W'.cell? ⟨g, 1, none⟩ = some (.int .i64 (p : Int)))
    ((refine unhide HS _ ?_; (repeat (first | assumption | exact Below.refl _ _ | refine Below.drew ?_))))
    (first
      | (go_at_call 71; refine (unhide HRF _ (by repeat (first | assumption | exact Below.refl _ _ | refine Below.drew ?_))).mono ?_; rintro e w9 ⟨rfl, hw9⟩; obtain rfl := hw9.symm)))
  have hbd : Below W.heap.size W W.drew := (Below.refl _ _).drew
  have hc1 := (unhide HS _ hbd).2
  have hf1 := unhide HFR _ hbd
  have HRD := hide (HR.out.below hbd)
  generalize W.drew = w9 at *
  go_wp2_with (go_at_call 57; refine (demand_ok 80 w9).mono ?_; rintro e w10 ⟨rfl, hw10⟩; obtain rfl := hw10.symm; clear hw10)
  go_ret
  refine ⟨rfl, ?_, grown_then (grown_belowS g hbd) (grown_put _ _ _ _)⟩
  rw [← HC.out]
  exact HRD.out.put _
set_option maxRecDepth 100000 in
set_option maxHeartbeats 4000000 in
theorem number_no {w W : World} {g n c p size : Nat} {a : Option Addr} {xs : List Int} (hr : Rdr w W g (.slice a n c) p) (hb : IsB w (.slice a n c) xs) (h1 : 1 ≤ size) (h4 : size ≤ 4) (hp0 : p ≤ n) (hp : n < p + size) :
    Calls Tryd.prog 58 #[.pointer (some ⟨g, 0, none⟩), .int .i64 (size : Int)] W fun e w' => e = gaveUp 80 ∧ W.grownBy w' (some g) := by
  have hn := hb.lenEq
  have hne : rdF xs (p : Int) (size : Int) = (0, 0, 10) := by
    unfold rdF
    rw [if_neg (by omega), if_neg (by omega), if_pos (by omega)]
  have HRF : Hid (∀ W', Below W.heap.size W W' → Calls Tryd.prog 71 #[.slice a n c, .int .i64 (p : Int), .int .i64 (size : Int)] W' fun e w' => e = .returned (.tuple #[.int .u64 0, .int .i64 0, .int .i64 10]) ∧ w' = W') := fun W' hW => by
    have := rfixed_calls (hb.below (hr.below hW).old) (p : Int) (size : Int)
    rw [hne] at this
    exact this
  have HR := hide hr
  have HS : Hid (∀ W', Below W.heap.size W W' → W'.cell? ⟨g, 0, none⟩ = some (.slice a n c) ∧ W'.cell? ⟨g, 1, none⟩ = some (.int .i64 (p : Int))) := fun W' hW => ⟨(HR.out.below hW).c0, (HR.out.below hW).c1⟩
  clear hr hb hn hne
  go_enter Tryd.func58, Tryd.ntmps58
  go_wp2_with fail
  focus (go_region_held3 (fun W' => W'.cell? ⟨g, 0, none⟩ = some (.slice a n c) ∧ W'.cell? ⟨g, 1, none⟩ = some (.int .i64 (p : Int)))
    ((refine unhide HS _ ?_; (repeat (first | assumption | exact Below.refl _ _ | refine Below.drew ?_))))
    (first
      | (go_at_call 71; refine (unhide HRF _ (by repeat (first | assumption | exact Below.refl _ _ | refine Below.drew ?_))).mono ?_; rintro e w9 ⟨rfl, hw9⟩; obtain rfl := hw9.symm)))
  have hbd : Below W.heap.size W W.drew := (Below.refl _ _).drew
  generalize W.drew = w9 at *
  go_wp2_with (go_at_call 57; refine (demand_no 80 w9).mono ?_; rintro e w10 ⟨rfl, hw10⟩; obtain rfl := hw10.symm; clear hw10)
  exact ⟨rfl, rfl, grown_belowS g hbd⟩
set_option maxRecDepth 100000 in
set_option maxHeartbeats 4000000 in
theorem count_ok {w W : World} {g n c p : Nat} {a : Option Addr} {xs : List Int} (hr : Rdr w W g (.slice a n c) p) (hb : IsB w (.slice a n c) xs) (hp : p ≤ n) (h0 : (rU 0 0 (xs.drop p)).2.2 = 0) (hm : (rU 0 0 (xs.drop p)).1 ≤ 1024) :
    Calls Tryd.prog 59 #[.pointer (some ⟨g, 0, none⟩)] W fun e w' => e = .returned (.int .i64 (rU 0 0 (xs.drop p)).1) ∧ Rdr w w' g (.slice a n c) (p + (rU 0 0 (xs.drop p)).2.1) ∧ W.grownBy w' (some g) := by
  have hn := hb.lenEq
  have hne := rdU_of (xs := xs) (at_ := p) (by omega) rfl
  have hok := rU_ok (l := xs.drop p) (i := 0) (acc := 0) (fun x hx => hb.mem x (List.mem_of_mem_drop hx)) (Int.le_refl 0) h0
  rw [if_pos h0, h0] at hne
  have hqn : (rU 0 0 (xs.drop p)).2.1 ≤ n - p := by have := hok.2.2; rw [List.length_drop] at this; omega
  have hy0 := hok.1
  clear hok h0
  generalize (rU 0 0 (xs.drop p)).1 = y at *
  generalize (rU 0 0 (xs.drop p)).2.1 = q at *
  have HRF : Hid (∀ W', Below W.heap.size W W' → Calls Tryd.prog 72 #[.slice a n c, .int .i64 (p : Int)] W' fun e w' => e = .returned (.tuple #[.int .u64 y, .int .i64 ((p : Int) + (q : Int)), .int .i64 0]) ∧ w' = W') := fun W' hW => by
    have := ruint_calls (hb.below (hr.below hW).old) (p : Int)
    rw [hne] at this
    exact this
  have hpn : n ≤ 9223372036854775807 := by have := hb.len; omega
  have HR := hide hr
  have HS : Hid (∀ W', Below W.heap.size W W' → W'.cell? ⟨g, 0, none⟩ = some (.slice a n c) ∧ W'.cell? ⟨g, 1, none⟩ = some (.int .i64 (p : Int))) := fun W' hW => ⟨(HR.out.below hW).c0, (HR.out.below hW).c1⟩
  have HFR : Hid (∀ W', Below W.heap.size W W' → W'.frozen? ⟨g, 1, none⟩ = false) := fun W' hW => (HR.out.below hW).blk.frozen 1
  clear hr hb hn hne
  go_enter Tryd.func59, Tryd.ntmps59
  go_wp2_with fail
  focus (go_region_held3 (fun W' => W'.cell? ⟨g, 0, none⟩ = some (.slice a n c) ∧ W'.cell? ⟨g, 1, none⟩ = some (.int .i64 (p : Int)))
    ((refine unhide HS _ ?_; (repeat (first | assumption | exact Below.refl _ _ | refine Below.drew ?_))))
    (first
      | (go_at_call 72; refine (unhide HRF _ (by repeat (first | assumption | exact Below.refl _ _ | refine Below.drew ?_))).mono ?_; rintro e w9 ⟨rfl, hw9⟩; obtain rfl := hw9.symm)))
  have hbd : Below W.heap.size W W.drew := (Below.refl _ _).drew
  have hc1 := (unhide HS _ hbd).2
  have hf1 := unhide HFR _ hbd
  have HRD := hide (HR.out.below hbd)
  generalize W.drew = w9 at *
  go_wp2_with fail
  refine (demand_ok 80 w9).mono ?_
  rintro e w10 ⟨rfl, hw10⟩
  obtain rfl := hw10.symm
  clear hw10
  go_wp2_with fail
  refine (demand_ok 82 w9).mono ?_
  rintro e w10 ⟨rfl, hw10⟩
  obtain rfl := hw10.symm
  clear hw10
  go_wp2
  go_ret
  refine ⟨rfl, ?_, grown_then (grown_belowS g hbd) (grown_put _ _ _ _)⟩
  have hcast : ((p + q : Nat) : Int) = (p : Int) + (q : Int) := by omega
  rw [← hcast]
  exact HRD.out.put _
set_option maxRecDepth 100000 in
set_option maxHeartbeats 4000000 in
theorem count_80 {w W : World} {g n c p : Nat} {a : Option Addr} {xs : List Int} (hr : Rdr w W g (.slice a n c) p) (hb : IsB w (.slice a n c) xs) (hp : p ≤ n) (h0 : (rU 0 0 (xs.drop p)).2.2 ≠ 0) :
    Calls Tryd.prog 59 #[.pointer (some ⟨g, 0, none⟩)] W fun e w' => e = gaveUp 80 ∧ W.grownBy w' (some g) := by
  have hn := hb.lenEq
  have hne := rdU_of (xs := xs) (at_ := p) (by omega) rfl
  rw [if_neg h0] at hne
  have hr0 : ((rU 0 0 (xs.drop p)).2.2 == 0) = false := by simpa using h0
  clear h0
  generalize (rU 0 0 (xs.drop p)).1 = y at *
  generalize (rU 0 0 (xs.drop p)).2.2 = r at *
  have HRF : Hid (∀ W', Below W.heap.size W W' → Calls Tryd.prog 72 #[.slice a n c, .int .i64 (p : Int)] W' fun e w' => e = .returned (.tuple #[.int .u64 y, .int .i64 0, .int .i64 r]) ∧ w' = W') := fun W' hW => by
    have := ruint_calls (hb.below (hr.below hW).old) (p : Int)
    rw [hne] at this
    exact this
  have hpn : n ≤ 9223372036854775807 := by have := hb.len; omega
  have HR := hide hr
  have HS : Hid (∀ W', Below W.heap.size W W' → W'.cell? ⟨g, 0, none⟩ = some (.slice a n c) ∧ W'.cell? ⟨g, 1, none⟩ = some (.int .i64 (p : Int))) := fun W' hW => ⟨(HR.out.below hW).c0, (HR.out.below hW).c1⟩
  have HFR : Hid (∀ W', Below W.heap.size W W' → W'.frozen? ⟨g, 1, none⟩ = false) := fun W' hW => (HR.out.below hW).blk.frozen 1
  clear hr hb hn hne
  go_enter Tryd.func59, Tryd.ntmps59
  go_wp2_with fail
  focus (go_region_held3 (fun W' => W'.cell? ⟨g, 0, none⟩ = some (.slice a n c) ∧ W'.cell? ⟨g, 1, none⟩ = some (.int .i64 (p : Int)))
    ((refine unhide HS _ ?_; (repeat (first | assumption | exact Below.refl _ _ | refine Below.drew ?_))))
    (first
      | (go_at_call 72; refine (unhide HRF _ (by repeat (first | assumption | exact Below.refl _ _ | refine Below.drew ?_))).mono ?_; rintro e w9 ⟨rfl, hw9⟩; obtain rfl := hw9.symm)))
  have hbd : Below W.heap.size W W.drew := (Below.refl _ _).drew
  have hc1 := (unhide HS _ hbd).2
  have hf1 := unhide HFR _ hbd
  have HRD := hide (HR.out.below hbd)
  generalize W.drew = w9 at *
  go_wp2_with fail
  refine (demand_no 80 w9).mono ?_
  rintro e w10 ⟨rfl, hw10⟩
  obtain rfl := hw10.symm
  clear hw10
  exact ⟨rfl, rfl, grown_belowS g hbd⟩
set_option maxRecDepth 100000 in
set_option maxHeartbeats 4000000 in
theorem count_82 {w W : World} {g n c p : Nat} {a : Option Addr} {xs : List Int} (hr : Rdr w W g (.slice a n c) p) (hb : IsB w (.slice a n c) xs) (hp : p ≤ n) (h0 : (rU 0 0 (xs.drop p)).2.2 = 0) (hm : 1024 < (rU 0 0 (xs.drop p)).1) :
    Calls Tryd.prog 59 #[.pointer (some ⟨g, 0, none⟩)] W fun e w' => e = gaveUp 82 ∧ W.grownBy w' (some g) := by
  have hn := hb.lenEq
  have hne := rdU_of (xs := xs) (at_ := p) (by omega) rfl
  rw [if_pos h0, h0] at hne
  have hdd : decide ((rU 0 0 (xs.drop p)).1 ≤ 1024) = false := decide_eq_false (by omega)
  clear h0
  generalize (rU 0 0 (xs.drop p)).1 = y at *
  generalize (rU 0 0 (xs.drop p)).2.1 = q at *
  have HRF : Hid (∀ W', Below W.heap.size W W' → Calls Tryd.prog 72 #[.slice a n c, .int .i64 (p : Int)] W' fun e w' => e = .returned (.tuple #[.int .u64 y, .int .i64 ((p : Int) + (q : Int)), .int .i64 0]) ∧ w' = W') := fun W' hW => by
    have := ruint_calls (hb.below (hr.below hW).old) (p : Int)
    rw [hne] at this
    exact this
  have hpn : n ≤ 9223372036854775807 := by have := hb.len; omega
  have HR := hide hr
  have HS : Hid (∀ W', Below W.heap.size W W' → W'.cell? ⟨g, 0, none⟩ = some (.slice a n c) ∧ W'.cell? ⟨g, 1, none⟩ = some (.int .i64 (p : Int))) := fun W' hW => ⟨(HR.out.below hW).c0, (HR.out.below hW).c1⟩
  have HFR : Hid (∀ W', Below W.heap.size W W' → W'.frozen? ⟨g, 1, none⟩ = false) := fun W' hW => (HR.out.below hW).blk.frozen 1
  clear hr hb hn hne
  go_enter Tryd.func59, Tryd.ntmps59
  go_wp2_with fail
  focus (go_region_held3 (fun W' => W'.cell? ⟨g, 0, none⟩ = some (.slice a n c) ∧ W'.cell? ⟨g, 1, none⟩ = some (.int .i64 (p : Int)))
    ((refine unhide HS _ ?_; (repeat (first | assumption | exact Below.refl _ _ | refine Below.drew ?_))))
    (first
      | (go_at_call 72; refine (unhide HRF _ (by repeat (first | assumption | exact Below.refl _ _ | refine Below.drew ?_))).mono ?_; rintro e w9 ⟨rfl, hw9⟩; obtain rfl := hw9.symm)))
  have hbd : Below W.heap.size W W.drew := (Below.refl _ _).drew
  have hc1 := (unhide HS _ hbd).2
  have hf1 := unhide HFR _ hbd
  have HRD := hide (HR.out.below hbd)
  generalize W.drew = w9 at *
  go_wp2_with fail
  refine (demand_ok 80 w9).mono ?_
  rintro e w10 ⟨rfl, hw10⟩
  obtain rfl := hw10.symm
  clear hw10
  go_wp2_with fail
  refine (demand_no 82 w9).mono ?_
  rintro e w10 ⟨rfl, hw10⟩
  obtain rfl := hw10.symm
  clear hw10
  exact ⟨rfl, rfl, grown_belowS g hbd⟩
end Go.Proofs.YtpklbchbldipnabDoor

namespace Go.Proofs.YtpklbchbldipnabDoor
open Go.RowKit

theorem elemSl : Tryd.prog.underlying 25 = some (.slice (Tryd.prog.elem 25)) := by kernel_rfl
theorem sizeSl (W : World) : (sizeOf (Tryd.prog.elem 25)).run Tryd.prog W = .ok 1 W := by kernel_rfl
/-- Where a part of a slice lies. -/
def subA (a : Option Addr) (cap q : Nat) : Option Addr := if cap = q then a else a.map (·.add q)
theorem IsB.sub {w : World} {a : Option Addr} {n cap : Nat} {xs : List Int} (h : IsB w (.slice a n cap) xs) {q t : Nat} (hq : q ≤ t) (ht : t ≤ n) : IsB w (.slice (subA a cap q) (t - q) (cap - q)) ((xs.drop q).take (t - q)) := by
  have hn := h.lenEq
  obtain ⟨hb, a', cp, hv, hl, hm, hz, hc⟩ := h
  injection hv with e1 e2 e3
  subst e1 e3
  have hlen : ((xs.drop q).take (t - q)).length = t - q := by simp; omega
  have hg : ∀ j, j < t - q → ((xs.drop q).take (t - q))[j]? = xs[q + j]? := fun j hj => by rw [List.getElem?_take_of_lt hj, List.getElem?_drop]
  refine ⟨fun j => ?_, subA a cap q, cap - q, by rw [hlen], by omega, by omega, fun h => ?_, fun hp => ?_⟩
  · by_cases hj : j < t - q
    · rw [hg j hj]; exact hb (q + j)
    · rw [List.getElem?_eq_none (by omega)]; simp
  · unfold subA at h
    by_cases e : cap = q
    · omega
    · rw [if_neg e] at h
      have : a = none := by simpa using h
      have := hz this
      omega
  · obtain ⟨b, off, ha, hcell⟩ := hc (by omega)
    refine ⟨b, off + q, ?_, fun j hj => ?_⟩
    · unfold subA
      rw [if_neg (by omega), ha, Option.map_some, Addr.add_lit]
    · rw [hlen] at hj
      rw [Nat.add_assoc, hcell (q + j) (by omega), List.getD_eq_getElem?_getD, List.getD_eq_getElem?_getD, hg j hj]
theorem sub_block {a : Option Addr} {cap q B : Nat} (h : ∀ ad, a = some ad → ad.block < B) : ∀ ad, subA a cap q = some ad → ad.block < B := by
  intro ad had
  unfold subA at had
  by_cases e : cap = q
  · rw [if_pos e] at had; exact h ad had
  · rw [if_neg e] at had
    cases a with
    | none => simp at had
    | some ad0 =>
      simp only [Option.map_some, Option.some.injEq] at had
      have e : (ad0.add q).block = ad0.block := by unfold Addr.add; split <;> rfl
      rw [← had, e]
      exact h ad0 rfl
theorem slice_lh (a : Option Addr) (n cap q t : Nat) (hq : q ≤ t) (ht : t ≤ cap) (W : World) : (Instr.sliceAt 25 (.slice a n cap) (some (.int .i64 (q : Int))) (some (.int .i64 (t : Int))) none).run Tryd.prog W = .ok (.slice (subA a cap q) (t - q) (cap - q)) W := by
  rw [run_sliceAt_slice W _ _ _ _ _ elemSl, run_slice_lh W _ a n cap elemSl .i64 .i64 q t (by omega) (by omega) (by omega), sizeSl]
  simp [Result.andThen, sliced, subA]
theorem slice_h (a : Option Addr) (n cap t : Nat) (ht : t ≤ cap) (W : World) : (Instr.sliceAt 25 (.slice a n cap) none (some (.int .i64 (t : Int))) none).run Tryd.prog W = .ok (.slice (subA a cap 0) t cap) W := by
  rw [run_sliceAt_slice W _ _ _ _ _ elemSl, run_slice_h W _ a n cap elemSl .i64 t (by omega) (by omega), sizeSl]
  simp [Result.andThen, sliced, subA]
theorem slice_l (a : Option Addr) (n cap q : Nat) (hq : q ≤ n) (W : World) : (Instr.sliceAt 25 (.slice a n cap) (some (.int .i64 (q : Int))) none none).run Tryd.prog W = .ok (.slice (subA a cap q) (n - q) (cap - q)) W := by
  rw [run_sliceAt_slice W _ _ _ _ _ elemSl, run_slice_l W _ a n cap elemSl .i64 q (by omega) (by omega), sizeSl]
  simp [Result.andThen, sliced, subA]
end Go.Proofs.YtpklbchbldipnabDoor
