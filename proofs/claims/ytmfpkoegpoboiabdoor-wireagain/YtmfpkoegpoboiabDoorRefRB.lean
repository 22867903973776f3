/- What the document's ReadBytes answers: as wire's. -/
import Derived.Test.YtmfpkoegpoboiabDoorRefB
namespace Go.Proofs.YtmfpkoegpoboiabDoor
open Go.RowKit

set_option maxHeartbeats 400000 in
theorem refRBytes_out (a : Option Addr) (len cap : Nat) (at_ most : Int) (w : World) (h : at_ < 0 ∨ (len : Int) < at_) :
    Calls Tryd.prog 40 #[.slice a len cap, .int .i64 at_, .int .i64 most] w fun e w' => e = .returned (.tuple #[.slice none 0 0, .int .i64 0, .int .i64 1]) ∧ w' = w := by
  have H : Hid (at_ < 0 ∨ (len : Int) < at_) := h
  clear h
  go_enter Tryd.func40, Tryd.ntmps40
  go_wp2_with (go_at_call 48; refine (refOutside_yes _ H.out).mono ?_; rintro e w' ⟨rfl, rfl⟩)
  go_ret3
  exact ⟨rfl, rfl⟩

set_option maxHeartbeats 400000 in
theorem refRBytes_neg (a : Option Addr) (len cap : Nat) (at_ most : Int) (w : World) (h : ¬ (at_ < 0 ∨ (len : Int) < at_)) (hm : most < 0) :
    Calls Tryd.prog 40 #[.slice a len cap, .int .i64 at_, .int .i64 most] w fun e w' => e = .returned (.tuple #[.slice none 0 0, .int .i64 0, .int .i64 1]) ∧ w' = w := by
  have H : Hid (¬ (at_ < 0 ∨ (len : Int) < at_)) := h
  clear h
  go_enter Tryd.func40, Tryd.ntmps40
  go_wp2_with (go_at_call 48; refine (refOutside_no _ H.out).mono ?_; rintro e w' ⟨rfl, rfl⟩)
  go_ret3
  exact ⟨rfl, rfl⟩

set_option maxHeartbeats 400000 in
theorem refRBytes_err (a : Option Addr) (len cap : Nat) (at_ most : Int) (N p er : Int) (w : World) (h : ¬ (at_ < 0 ∨ (len : Int) < at_)) (hm : 0 ≤ most) (he : (er != 0) = true)
    (hU : Calls Tryd.prog 45 #[.slice a len cap, .int .i64 at_] w fun e w' => e = .returned (.tuple #[.int .u64 N, .int .i64 p, .int .i64 er]) ∧ w' = w) :
    Calls Tryd.prog 40 #[.slice a len cap, .int .i64 at_, .int .i64 most] w fun e w' => e = .returned (.tuple #[.slice none 0 0, .int .i64 0, .int .i64 er]) ∧ w' = w := by
  have H : Hid (¬ (at_ < 0 ∨ (len : Int) < at_)) := h
  have HU := hide hU
  clear h hU
  go_enter Tryd.func40, Tryd.ntmps40
  go_wp2_with fail
  refine (refOutside_no _ H.out).mono ?_
  rintro e w' ⟨rfl, hw'⟩
  obtain rfl := hw'.symm
  clear hw'
  go_wp2_with fail
  refine (unhide HU).mono ?_
  rintro e w' ⟨rfl, hw'⟩
  obtain rfl := hw'.symm
  clear hw'
  go_wp2
  go_ret3
  exact ⟨rfl, rfl⟩

set_option maxHeartbeats 400000 in
theorem refRBytes_big (a : Option Addr) (len cap : Nat) (at_ most : Int) (N p : Int) (w : World) (h : ¬ (at_ < 0 ∨ (len : Int) < at_)) (hm : 0 ≤ most) (hm1 : most ≤ 9223372036854775807) (hN : most < N)
    (hU : Calls Tryd.prog 45 #[.slice a len cap, .int .i64 at_] w fun e w' => e = .returned (.tuple #[.int .u64 N, .int .i64 p, .int .i64 0]) ∧ w' = w) :
    Calls Tryd.prog 40 #[.slice a len cap, .int .i64 at_, .int .i64 most] w fun e w' => e = .returned (.tuple #[.slice none 0 0, .int .i64 0, .int .i64 13]) ∧ w' = w := by
  have H : Hid (¬ (at_ < 0 ∨ (len : Int) < at_)) := h
  have HU := hide hU
  clear h hU
  go_enter Tryd.func40, Tryd.ntmps40
  go_wp2_with fail
  refine (refOutside_no _ H.out).mono ?_
  rintro e w' ⟨rfl, hw'⟩
  obtain rfl := hw'.symm
  clear hw'
  go_wp2_with fail
  refine (unhide HU).mono ?_
  rintro e w' ⟨rfl, hw'⟩
  obtain rfl := hw'.symm
  clear hw'
  go_wp2
  go_ret3
  exact ⟨rfl, rfl⟩

set_option maxHeartbeats 400000 in
theorem refRBytes_short (a : Option Addr) (len cap : Nat) (at_ most : Int) (N p : Int) (w : World) (_hl : len ≤ 9223372036854775807) (h : ¬ (at_ < 0 ∨ (len : Int) < at_)) (hm : 0 ≤ most) (hm1 : most ≤ 9223372036854775807) (hN : N ≤ most) (_hp0 : 0 ≤ p) (hp : p ≤ len)
    (hs : (len : Int) - p < N)
    (hU : Calls Tryd.prog 45 #[.slice a len cap, .int .i64 at_] w fun e w' => e = .returned (.tuple #[.int .u64 N, .int .i64 p, .int .i64 0]) ∧ w' = w) :
    Calls Tryd.prog 40 #[.slice a len cap, .int .i64 at_, .int .i64 most] w fun e w' => e = .returned (.tuple #[.slice none 0 0, .int .i64 0, .int .i64 10]) ∧ w' = w := by
  have H : Hid (¬ (at_ < 0 ∨ (len : Int) < at_)) := h
  have HU := hide hU
  clear h hU
  go_enter Tryd.func40, Tryd.ntmps40
  go_wp2_with fail
  refine (refOutside_no _ H.out).mono ?_
  rintro e w' ⟨rfl, hw'⟩
  obtain rfl := hw'.symm
  clear hw'
  go_wp2_with fail
  refine (unhide HU).mono ?_
  rintro e w' ⟨rfl, hw'⟩
  obtain rfl := hw'.symm
  clear hw'
  go_wp2
  go_ret3
  exact ⟨rfl, rfl⟩

set_option maxHeartbeats 1000000 in
theorem refRBytes_in (b off len cap : Nat) (at_ most : Int) (N p : Nat) (xs : List Int) (w : World) (hn : len = xs.length) (hl : len ≤ cap) (hc : cap ≤ 9223372036854775807) (hr : len ≤ 140737488355328) (h : ¬ (at_ < 0 ∨ (len : Int) < at_)) (hm : 0 ≤ most) (hm1 : most ≤ 9223372036854775807) (hN : (N : Int) ≤ most) (hp : p + N ≤ len)
    (hcell : ∀ j, j < len → w.cell? ⟨b, off + j, none⟩ = some (.int .u8 (xs.getD j 0)))
    (hU : Calls Tryd.prog 45 #[.slice (some ⟨b, off, none⟩) len cap, .int .i64 at_] w fun e w' => e = .returned (.tuple #[.int .u64 (N : Int), .int .i64 (p : Int), .int .i64 0]) ∧ w' = w) :
    Calls Tryd.prog 40 #[.slice (some ⟨b, off, none⟩) len cap, .int .i64 at_, .int .i64 most] w fun e w' => ∃ v, e = .returned (.tuple #[v, .int .i64 ((p : Int) + N), .int .i64 0]) ∧
      w'.ownsRow w.heap.size 5 1 v N (((xs.drop p).take N).map (Value.int .u8)) ∧ Below w.heap.size w w' := by
  have H : Hid (¬ (at_ < 0 ∨ (len : Int) < at_)) := h
  have HU := hide hU
  have HP := hide (part_in b off len cap p N xs w hn hl hc hr hp hcell)
  clear h hU hcell hn
  go_enter Tryd.func40, Tryd.ntmps40
  go_wp2_with fail
  refine (refOutside_no _ H.out).mono ?_
  rintro e w' ⟨rfl, hw'⟩
  obtain rfl := hw'.symm
  clear hw'
  go_wp2_with fail
  refine (unhide HU).mono ?_
  rintro e w' ⟨rfl, hw'⟩
  obtain rfl := hw'.symm
  clear hw'
  go_wp2_with fail
  refine (unhide HP).mono ?_
  rintro e w' ⟨v, rfl, hown, hb⟩
  go_wp2
  go_ret3
  exact ⟨v, by go_num, hown, hb⟩

/-- The document's ReadBytes, of every slice, place and bound. -/
theorem refRBytes_calls {w : World} {v : Value} {xs : List Int} (h : IsB w v xs) (hr : xs.length ≤ 140737488355328) (at_ most : Int) (hm1 : most ≤ 9223372036854775807) :
    Calls Tryd.prog 40 #[v, .int .i64 at_, .int .i64 most] w fun e w' => ∃ u, e = .returned (.tuple #[u, .int .i64 (rdB xs at_ most).2.1, .int .i64 (rdB xs at_ most).2.2]) ∧
      w'.ownsRow w.heap.size 5 1 u (rdB xs at_ most).1.length ((rdB xs at_ most).1.map (Value.int .u8)) ∧ Below w.heap.size w w' := by
  have hU := refRUint_calls h at_
  have hok := fun hh => rdU_ok (at_ := at_) h.mem hh
  obtain ⟨hb, a, cap, rfl, hl, hm, _, hc⟩ := h
  have nil : ∀ (p er : Int) (e : Ending) (w' : World), (e = .returned (.tuple #[.slice none 0 0, .int .i64 p, .int .i64 er]) ∧ w' = w) →
      ∃ u, e = .returned (.tuple #[u, .int .i64 p, .int .i64 er]) ∧ w'.ownsRow w.heap.size 5 1 u ([] : List Int).length (([] : List Int).map (Value.int .u8)) ∧ Below w.heap.size w w' := by
    rintro p er e w' ⟨rfl, rfl⟩
    exact ⟨_, rfl, World.ownsRow_nil _ _ _ _, Below.refl _ _⟩
  unfold rdB
  by_cases ho : at_ < 0 ∨ (xs.length : Int) < at_
  · rw [if_pos ho]
    exact (refRBytes_out a _ cap at_ most w ho).mono (nil 0 1)
  rw [if_neg ho]
  by_cases hn : most < 0
  · rw [if_pos hn]
    exact (refRBytes_neg a _ cap at_ most w ho hn).mono (nil 0 1)
  rw [if_neg hn]
  by_cases he : (rdU xs at_).2.2 ≠ 0
  · rw [if_pos he]
    exact (refRBytes_err a _ cap at_ most _ _ _ w ho (by omega) (by simpa using he) hU).mono (nil 0 _)
  rw [if_neg he]
  have he0 : (rdU xs at_).2.2 = 0 := by simpa using he
  have hk := hok he0
  rw [he0] at hU
  generalize hN : (rdU xs at_).1 = N at *
  generalize hp : (rdU xs at_).2.1 = p at *
  by_cases hbig : most < N
  · rw [if_pos hbig]
    exact (refRBytes_big a _ cap at_ most N p w ho (by omega) hm1 hbig hU).mono (nil 0 13)
  rw [if_neg hbig]
  by_cases hs : (xs.length : Int) - p < N
  · rw [if_pos hs]
    exact (refRBytes_short a _ cap at_ most N p w (by omega) ho (by omega) hm1 (by omega) (by omega) (by omega) hs hU).mono (nil 0 10)
  rw [if_neg hs]
  obtain ⟨n, rfl⟩ := Int.eq_ofNat_of_zero_le hk.1
  obtain ⟨q, rfl⟩ := Int.eq_ofNat_of_zero_le (show 0 ≤ p by omega)
  obtain ⟨b, off, rfl, hcell⟩ := hc (by omega)
  simp only [Int.toNat_natCast]
  have hlen : ((xs.drop q).take n).length = n := by simp; omega
  rw [hlen]
  exact refRBytes_in b off _ cap at_ most n q xs w rfl hl hm hr ho (by omega) hm1 (by omega) (by omega) hcell hU
end Go.Proofs.YtmfpkoegpoboiabDoor
