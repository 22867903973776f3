/- What wire.ReadBytes answers. -/
import Derived.Test.YtmfpkoegpoboiabDoorRUint
import Derived.Test.YtmfpkoegpoboiabDoorUint
import Derived.Test.YtmfpkoegpoboiabDoorBytes
import Derived.Test.YtmfpkoegpoboiabDoorCodes
namespace Go.Proofs.YtmfpkoegpoboiabDoor
open Go.RowKit

set_option maxHeartbeats 400000 in
theorem rbytes_out (a : Option Addr) (len cap : Nat) (at_ most : Int) (w : World) (h : at_ < 0 ∨ (len : Int) < at_) :
    Calls Tryd.prog 13 #[.slice a len cap, .int .i64 at_, .int .i64 most] w fun e w' => e = .returned (.tuple #[.slice none 0 0, .int .i64 0, .int .i64 1]) ∧ w' = w := by
  have H : Hid (at_ < 0 ∨ (len : Int) < at_) := h
  clear h
  go_enter Tryd.func13, Tryd.ntmps13
  go_wp2_with (go_at_call 34; refine (outside_yes _ H.out).mono ?_; rintro e w' ⟨rfl, rfl⟩)
  go_ret3
  exact ⟨rfl, rfl⟩

set_option maxHeartbeats 400000 in
theorem rbytes_neg (a : Option Addr) (len cap : Nat) (at_ most : Int) (w : World) (h : ¬ (at_ < 0 ∨ (len : Int) < at_)) (hm : most < 0) :
    Calls Tryd.prog 13 #[.slice a len cap, .int .i64 at_, .int .i64 most] w fun e w' => e = .returned (.tuple #[.slice none 0 0, .int .i64 0, .int .i64 1]) ∧ w' = w := by
  have H : Hid (¬ (at_ < 0 ∨ (len : Int) < at_)) := h
  clear h
  go_enter Tryd.func13, Tryd.ntmps13
  go_wp2_with (go_at_call 34; refine (outside_no _ H.out).mono ?_; rintro e w' ⟨rfl, rfl⟩)
  go_ret3
  exact ⟨rfl, rfl⟩

set_option maxHeartbeats 400000 in
theorem rbytes_err (a : Option Addr) (len cap : Nat) (at_ most : Int) (N p er : Int) (w : World) (h : ¬ (at_ < 0 ∨ (len : Int) < at_)) (hm : 0 ≤ most) (he : (er != 0) = true)
    (hU : Calls Tryd.prog 10 #[.slice a len cap, .int .i64 at_] w fun e w' => e = .returned (.tuple #[.int .u64 N, .int .i64 p, .int .i64 er]) ∧ w' = w) :
    Calls Tryd.prog 13 #[.slice a len cap, .int .i64 at_, .int .i64 most] w fun e w' => e = .returned (.tuple #[.slice none 0 0, .int .i64 0, .int .i64 er]) ∧ w' = w := by
  have H : Hid (¬ (at_ < 0 ∨ (len : Int) < at_)) := h
  have HU := hide hU
  clear h hU
  go_enter Tryd.func13, Tryd.ntmps13
  go_wp2_with fail
  refine (outside_no _ H.out).mono ?_
  rintro e w' ⟨rfl, hw'⟩
  obtain rfl := hw'.symm
  clear hw'
  go_wp2_with fail
  refine (unhide HU).mono ?_
  rintro e w' ⟨rfl, hw'⟩
  obtain rfl := hw'.symm
  clear hw'
  go_wp2
  go_ret3
  exact ⟨rfl, rfl⟩

set_option maxHeartbeats 400000 in
theorem rbytes_big (a : Option Addr) (len cap : Nat) (at_ most : Int) (N p : Int) (w : World) (h : ¬ (at_ < 0 ∨ (len : Int) < at_)) (hm : 0 ≤ most) (hm1 : most ≤ 9223372036854775807) (hN : most < N)
    (hU : Calls Tryd.prog 10 #[.slice a len cap, .int .i64 at_] w fun e w' => e = .returned (.tuple #[.int .u64 N, .int .i64 p, .int .i64 0]) ∧ w' = w) :
    Calls Tryd.prog 13 #[.slice a len cap, .int .i64 at_, .int .i64 most] w fun e w' => e = .returned (.tuple #[.slice none 0 0, .int .i64 0, .int .i64 13]) ∧ w' = w := by
  have H : Hid (¬ (at_ < 0 ∨ (len : Int) < at_)) := h
  have HU := hide hU
  clear h hU
  go_enter Tryd.func13, Tryd.ntmps13
  go_wp2_with fail
  refine (outside_no _ H.out).mono ?_
  rintro e w' ⟨rfl, hw'⟩
  obtain rfl := hw'.symm
  clear hw'
  go_wp2_with fail
  refine (unhide HU).mono ?_
  rintro e w' ⟨rfl, hw'⟩
  obtain rfl := hw'.symm
  clear hw'
  go_wp2
  go_ret3
  exact ⟨rfl, rfl⟩

set_option maxHeartbeats 400000 in
theorem rbytes_short (a : Option Addr) (len cap : Nat) (at_ most : Int) (N p : Int) (w : World) (_hl : len ≤ 9223372036854775807) (h : ¬ (at_ < 0 ∨ (len : Int) < at_)) (hm : 0 ≤ most) (hm1 : most ≤ 9223372036854775807) (hN : N ≤ most) (_hp0 : 0 ≤ p) (hp : p ≤ len)
    (hs : (len : Int) - p < N)
    (hU : Calls Tryd.prog 10 #[.slice a len cap, .int .i64 at_] w fun e w' => e = .returned (.tuple #[.int .u64 N, .int .i64 p, .int .i64 0]) ∧ w' = w) :
    Calls Tryd.prog 13 #[.slice a len cap, .int .i64 at_, .int .i64 most] w fun e w' => e = .returned (.tuple #[.slice none 0 0, .int .i64 0, .int .i64 10]) ∧ w' = w := by
  have H : Hid (¬ (at_ < 0 ∨ (len : Int) < at_)) := h
  have HU := hide hU
  clear h hU
  go_enter Tryd.func13, Tryd.ntmps13
  go_wp2_with fail
  refine (outside_no _ H.out).mono ?_
  rintro e w' ⟨rfl, hw'⟩
  obtain rfl := hw'.symm
  clear hw'
  go_wp2_with fail
  refine (unhide HU).mono ?_
  rintro e w' ⟨rfl, hw'⟩
  obtain rfl := hw'.symm
  clear hw'
  go_wp2
  go_ret3
  exact ⟨rfl, rfl⟩

set_option maxHeartbeats 400000 in
theorem rbytes_in (b off len cap : Nat) (at_ most : Int) (N p : Nat) (xs : List Int) (w : World) (hn : len = xs.length) (hl : len ≤ cap) (_hc : cap ≤ 9223372036854775807) (hr : len ≤ 140737488355328) (h : ¬ (at_ < 0 ∨ (len : Int) < at_)) (hm : 0 ≤ most) (hm1 : most ≤ 9223372036854775807) (hN : (N : Int) ≤ most) (hp : p + N ≤ len)
    (hcell : ∀ j, j < len → w.cell? ⟨b, off + j, none⟩ = some (.int .u8 (xs.getD j 0)))
    (hU : Calls Tryd.prog 10 #[.slice (some ⟨b, off, none⟩) len cap, .int .i64 at_] w fun e w' => e = .returned (.tuple #[.int .u64 (N : Int), .int .i64 (p : Int), .int .i64 0]) ∧ w' = w) :
    Calls Tryd.prog 13 #[.slice (some ⟨b, off, none⟩) len cap, .int .i64 at_, .int .i64 most] w fun e w' => ∃ v, e = .returned (.tuple #[v, .int .i64 ((p : Int) + N), .int .i64 0]) ∧
      w'.ownsRow w.heap.size 5 1 v N (((xs.drop p).take N).map (Value.int .u8)) ∧ Below w.heap.size w w' := by
  obtain ⟨i0, hi, hz0, hz1, hz2⟩ := info_parts info8
  have H : Hid (¬ (at_ < 0 ∨ (len : Int) < at_)) := h
  have HU := hide hU
  have hnews : ∀ j u, (((xs.drop p).take N).map (Value.int .u8))[j]? = some u → w.cell? ⟨b, off + p + j, none⟩ = some u := by
    intro j u hu
    simp only [List.getElem?_map, Option.map_eq_some_iff] at hu
    obtain ⟨x, hx, rfl⟩ := hu
    have hjl := (List.getElem?_eq_some_iff.1 hx).1
    rw [List.length_take, List.length_drop] at hjl
    rw [List.getElem?_take_of_lt (by omega), List.getElem?_drop] at hx
    rw [Nat.add_assoc, hcell (p + j) (by omega), List.getD_eq_getElem?_getD, hx]
    rfl
  have HNW := hide hnews
  have hlen : (((xs.drop p).take N).map (Value.int .u8)).length = N := by simp; omega
  have HL := hide hlen
  clear h hU hcell hn hnews hlen
  by_cases h0 : N = 0
  · subst h0
    by_cases hcp : cap = p
    · subst hcp
      go_enter Tryd.func13, Tryd.ntmps13
      go_wp2_with fail
      refine (outside_no _ H.out).mono ?_
      rintro e w' ⟨rfl, hw'⟩
      obtain rfl := hw'.symm
      clear hw'
      go_wp2_with fail
      refine (unhide HU).mono ?_
      rintro e w' ⟨rfl, hw'⟩
      obtain rfl := hw'.symm
      clear hw'
      go_wp2_with (at_builtin; refine wpList_append_own _ rfl _ _ 23 rfl w.heap.size 5 i0 (.int .u8 0) 1 1 Tryd.underlying23 hi hz0 hz1 hz2 rfl (by decide) (.slice none 0 0) 0 [] rfl (World.ownsRow_nil _ _ _ _) _ 0 _ [] rfl rfl (fun j u hj => by simp at hj) (fun u hu => by simp at hu) (by unfold maxLen; omega) (by omega) (Nat.le_refl _) ?_; intro v' w1 hown hgrow hnil)
      go_ret3
      exact ⟨v', by go_num, by simpa using hown, (Below.refl _ _).grown hgrow (Nat.le_refl _) (fun k hk => by simp [Value.ownBlock] at hk)⟩
    · go_enter Tryd.func13, Tryd.ntmps13
      go_wp2_with fail
      refine (outside_no _ H.out).mono ?_
      rintro e w' ⟨rfl, hw'⟩
      obtain rfl := hw'.symm
      clear hw'
      go_wp2_with fail
      refine (unhide HU).mono ?_
      rintro e w' ⟨rfl, hw'⟩
      obtain rfl := hw'.symm
      clear hw'
      go_wp2_with (at_builtin; refine wpList_append_own _ rfl _ _ 23 rfl w.heap.size 5 i0 (.int .u8 0) 1 1 Tryd.underlying23 hi hz0 hz1 hz2 rfl (by decide) (.slice none 0 0) 0 [] rfl (World.ownsRow_nil _ _ _ _) _ 0 _ [] rfl rfl (fun j u hj => by simp at hj) (fun u hu => by simp at hu) (by unfold maxLen; omega) (by omega) (Nat.le_refl _) ?_; intro v' w1 hown hgrow hnil)
      go_ret3
      exact ⟨v', by go_num, by simpa using hown, (Below.refl _ _).grown hgrow (Nat.le_refl _) (fun k hk => by simp [Value.ownBlock] at hk)⟩
  · have hcp : ¬ cap = p := by omega
    have hN0 : 0 < N := by omega
    have HPN : Hid (p + N - p = N) := by show _ = _; omega
    go_enter Tryd.func13, Tryd.ntmps13
    go_wp2_with fail
    refine (outside_no _ H.out).mono ?_
    rintro e w' ⟨rfl, hw'⟩
    obtain rfl := hw'.symm
    clear hw'
    go_wp2_with fail
    refine (unhide HU).mono ?_
    rintro e w' ⟨rfl, hw'⟩
    obtain rfl := hw'.symm
    clear hw'
    go_wp2_with (at_builtin; refine wpList_append_own _ rfl _ _ 23 rfl w.heap.size 5 i0 (.int .u8 0) 1 1 Tryd.underlying23 hi hz0 hz1 hz2 rfl (by decide) (.slice none 0 0) 0 [] rfl (World.ownsRow_nil _ _ _ _) ⟨b, off + p, none⟩ (p + N - p) _ (((xs.drop p).take N).map (Value.int .u8)) rfl (by rw [HL.out]; omega) (fun j u hj => by rw [Addr.add_lit]; exact unhide HNW j u hj) (u8_one _) (by unfold maxLen; omega) (by omega) (Nat.le_refl _) ?_; intro v' w1 hown hgrow hnil)
    go_ret3
    rw [HPN.out, Nat.zero_add] at hown
    exact ⟨v', by go_num, by simpa using hown, (Below.refl _ _).grown hgrow (Nat.le_refl _) (fun k hk => by simp [Value.ownBlock] at hk)⟩

/-- wire.ReadBytes, of every slice, place and bound. -/
theorem rbytes_calls {w : World} {v : Value} {xs : List Int} (h : IsB w v xs) (hr : xs.length ≤ 140737488355328) (at_ most : Int) (hm1 : most ≤ 9223372036854775807) :
    Calls Tryd.prog 13 #[v, .int .i64 at_, .int .i64 most] w fun e w' => ∃ u, e = .returned (.tuple #[u, .int .i64 (rdB xs at_ most).2.1, .int .i64 (rdB xs at_ most).2.2]) ∧
      w'.ownsRow w.heap.size 5 1 u (rdB xs at_ most).1.length ((rdB xs at_ most).1.map (Value.int .u8)) ∧ Below w.heap.size w w' := by
  have hU := ruint_calls h at_
  have hok := fun hh => rdU_ok (at_ := at_) h.mem hh
  obtain ⟨hb, a, cap, rfl, hl, hm, _, hc⟩ := h
  have nil : ∀ (p er : Int) (e : Ending) (w' : World), (e = .returned (.tuple #[.slice none 0 0, .int .i64 p, .int .i64 er]) ∧ w' = w) →
      ∃ u, e = .returned (.tuple #[u, .int .i64 p, .int .i64 er]) ∧ w'.ownsRow w.heap.size 5 1 u ([] : List Int).length (([] : List Int).map (Value.int .u8)) ∧ Below w.heap.size w w' := by
    rintro p er e w' ⟨rfl, rfl⟩
    exact ⟨_, rfl, World.ownsRow_nil _ _ _ _, Below.refl _ _⟩
  unfold rdB
  by_cases ho : at_ < 0 ∨ (xs.length : Int) < at_
  · rw [if_pos ho]
    exact (rbytes_out a _ cap at_ most w ho).mono (nil 0 1)
  rw [if_neg ho]
  by_cases hn : most < 0
  · rw [if_pos hn]
    exact (rbytes_neg a _ cap at_ most w ho hn).mono (nil 0 1)
  rw [if_neg hn]
  by_cases he : (rdU xs at_).2.2 ≠ 0
  · rw [if_pos he]
    exact (rbytes_err a _ cap at_ most _ _ _ w ho (by omega) (by simpa using he) hU).mono (nil 0 _)
  rw [if_neg he]
  have he0 : (rdU xs at_).2.2 = 0 := by simpa using he
  have hk := hok he0
  rw [he0] at hU
  generalize hN : (rdU xs at_).1 = N at *
  generalize hp : (rdU xs at_).2.1 = p at *
  by_cases hbig : most < N
  · rw [if_pos hbig]
    exact (rbytes_big a _ cap at_ most N p w ho (by omega) hm1 hbig hU).mono (nil 0 13)
  rw [if_neg hbig]
  by_cases hs : (xs.length : Int) - p < N
  · rw [if_pos hs]
    exact (rbytes_short a _ cap at_ most N p w (by omega) ho (by omega) hm1 (by omega) (by omega) (by omega) hs hU).mono (nil 0 10)
  rw [if_neg hs]
  obtain ⟨n, rfl⟩ := Int.eq_ofNat_of_zero_le hk.1
  obtain ⟨q, rfl⟩ := Int.eq_ofNat_of_zero_le (show 0 ≤ p by omega)
  obtain ⟨b, off, rfl, hcell⟩ := hc (by omega)
  simp only [Int.toNat_natCast]
  have hlen : ((xs.drop q).take n).length = n := by simp; omega
  rw [hlen]
  exact rbytes_in b off _ cap at_ most n q xs w rfl hl hm hr ho (by omega) hm1 (by omega) (by omega) hcell hU
end Go.Proofs.YtmfpkoegpoboiabDoor
