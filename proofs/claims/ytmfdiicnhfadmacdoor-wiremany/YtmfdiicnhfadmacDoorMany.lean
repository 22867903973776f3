/- WireMany's walk. -/
import Derived.Test.YtmfdiicnhfadmacDoorIsb
import Derived.Test.YtmfdiicnhfadmacDoorReads
import Derived.Test.YtmfdiicnhfadmacDoorBack
import Derived.WalkLawsBesides
namespace Go.Proofs.YtmfdiicnhfadmacDoor
open Go.RowKit

/-- The number of the k-th writing. -/
def mulU (S : Int) (k : Nat) : Int := IntKind.u64.wrap (S * (k : Int))
def yk (ys : List Int) (k : Nat) : List Int := ys.take (k % (ys.length + 1))
theorem mod_succ (k m : Nat) : (k : Int) % ((m : Int) + 1) = ((k % (m + 1) : Nat) : Int) := by rw [Int.natCast_emod]; rfl
/-- The first k numbers and byte strings, one behind the other. -/
def enc (S : Int) (ys : List Int) : Nat → List Int
  | 0 => []
  | k + 1 => enc S ys k ++ (uBytes (mulU S k) ++ bB (yk ys k))
theorem mulU_bd (S : Int) (k : Nat) : 0 ≤ mulU S k ∧ mulU S k ≤ 18446744073709551615 := by
  unfold mulU
  rw [IntKind.wrap_u64]
  omega
theorem yk_len (ys : List Int) (k : Nat) : (yk ys k).length = k % (ys.length + 1) := by
  have := Nat.mod_lt k (show 0 < ys.length + 1 by omega)
  simp only [yk, List.length_take]
  omega
theorem enc_len {S : Int} {ys : List Int} (hy : ys.length ≤ 200) (k : Nat) : (enc S ys k).length ≤ 220 * k := by
  induction k with
  | zero => simp [enc]
  | succ n ih =>
    have h1 := uBytes_le (mulU S n)
    have h2 := bB_len (yk ys n)
    have h3 := yk_len ys n
    have h4 := Nat.mod_lt n (show 0 < ys.length + 1 by omega)
    simp only [enc, List.length_append]
    omega
theorem enc_split (S : Int) (ys : List Int) {k n : Nat} (h : k < n) : ∃ rest, enc S ys n = enc S ys k ++ (uBytes (mulU S k) ++ (bB (yk ys k) ++ rest)) := by
  induction n with
  | zero => omega
  | succ m ih =>
    by_cases e : k = m
    · subst e; exact ⟨[], by simp [enc]⟩
    · obtain ⟨rest, hr⟩ := ih (by omega)
      exact ⟨rest ++ (uBytes (mulU S m) ++ bB (yk ys m)), by rw [enc, hr]; simp⟩
theorem enc_bytes {S : Int} {ys : List Int} (hb : ∀ x ∈ ys, 0 ≤ x ∧ x ≤ 255) (hy : ys.length ≤ 200) (k : Nat) : ∀ x ∈ enc S ys k, 0 ≤ x ∧ x ≤ 255 := by
  induction k with
  | zero => intro x hx; simp [enc] at hx
  | succ n ih =>
    intro x hx
    rw [enc] at hx
    rcases List.mem_append.1 hx with hx | hx
    · exact ih x hx
    · rcases List.mem_append.1 hx with hx | hx
      · have := mulU_bd S n
        exact uBytes_bytes this.1 (top9 this.2) x hx
      · have h3 := yk_len ys n
        have h4 := Nat.mod_lt n (show 0 < ys.length + 1 by omega)
        exact bB_bytes (by show (yk ys n).length ≤ _; omega) (fun y hy => hb y (List.mem_of_mem_take hy)) x hx
/-- The first bytes of a slice, wherever it lies. -/
theorem IsB.firstG {w : World} {a : Option Addr} {n cap k : Nat} {ys : List Int} (h : IsB w (.slice a n cap) ys) (hk : k ≤ n) : IsB w (.slice a k cap) (ys.take k) := by
  have hn := h.lenEq
  obtain ⟨hb, a', cp, hv, hl, hm, hz, hc⟩ := h
  injection hv with e1 e2 e3
  subst e1 e3
  have hlen : (ys.take k).length = k := by simp; omega
  refine ⟨fun j => ?_, a, cap, by rw [hlen], by omega, hm, hz, fun hp => ?_⟩
  · by_cases hj : j < k
    · rw [List.getElem?_take_of_lt hj]; exact hb j
    · rw [List.getElem?_eq_none (by omega)]; simp
  · obtain ⟨b, off, ha, hcell⟩ := hc (by omega)
    refine ⟨b, off, ha, fun j hj => ?_⟩
    rw [hcell j (by omega), List.getD_eq_getElem?_getD, List.getD_eq_getElem?_getD, List.getElem?_take_of_lt (by omega)]

set_option maxRecDepth 100000 in
set_option maxHeartbeats 1000000 in
theorem many_a1 {S : Int} {n : Int} {w : World} {a : Option Addr} {m cap : Nat} {xs ys : List Int} (hn : n < 1) (_hn2 : -9223372036854775808 ≤ n) (hb : IsB w (.slice a m cap) xs) (hy : ys = xs.take 200) (hm : 200 < m) (hmc : m ≤ cap) (_hcm : cap ≤ 9223372036854775807) (ht : Tab w) :
    Calls Tryd.prog 4 #[.int .i64 n, .int .u64 S, .slice a m cap] w fun e w' => e = .returned (.bool true) ∧ Below w.heap.size w w' := by
  have HT := hide ht
  obtain ⟨i0, hi, hz0, hz1, hz2⟩ := info_parts info8
  have hbf : IsB w (.slice a 200 cap) ys := by rw [hy]; exact hb.firstG (by omega)
  have HL := hide hbf.lenEq
  have HB := hide hbf
  have hyl : ys.length ≤ 200 := by rw [← HL.out]; omega
  have HYL := hide hyl
  clear ht hb hbf hy hyl
  have hdm : decide ((200 : Int) < (m : Int)) = true := by simp; omega
  go_enter Tryd.func4, Tryd.ntmps4
  go_wp2_with fail
  go_loopw [7, 8] (fun v i wr => ∃ k : Nat, k ≤ 1 ∧ i = .int .i64 (k : Int) ∧ wr.ownsRow w.heap.size 5 1 v (enc S ys k).length ((enc S ys k).map (Value.int .u8)) ∧ Below w.heap.size w wr) (fun _ i _ => 1 - (intOf i).toNat)
  case atStart => exact ⟨0, by omega, rfl, World.ownsRow_nil _ _ _ _, Below.refl _ _⟩
  case round =>
    obtain ⟨k, hk, rfl, hown, hnx⟩ := hrel
    have hsz := hnx.size
    have hel := enc_len (S := S) HYL.out k
    obtain ⟨L, hL⟩ : ∃ L, L = (enc S ys k).length := ⟨_, rfl⟩
    rw [← hL] at hown hel
    have HLE := hide hL
    clear hL
    by_cases hlt : k < 1
    · obtain ⟨V, hV⟩ : ∃ V, V = mulU S k := ⟨_, rfl⟩
      have hmul : IntKind.u64.wrap (S * (k : Int)) = V := hV.symm
      have hVb := mulU_bd S k
      rw [← hV] at hVb
      obtain ⟨hV0, hV1⟩ := hVb
      have HV := hide hV
      clear hV
      obtain ⟨q, hqd⟩ : ∃ q, q = k % (200 + 1) := ⟨_, rfl⟩
      have hq : (k : Int) % (201) = (q : Int) := by rw [hqd]; omega
      have hqm : q < 200 + 1 := by rw [hqd]; exact Nat.mod_lt _ (by omega)
      have HQ := hide hqd
      clear hqd
      go_wp2_with fail
      refine (uint_head _ hV0 (top9 hV1)).mono ?_
      rintro e w1 ⟨g1, n1, c1, rfl, hn1, hO1, hc1, hb1⟩
      have hown1 := owns_below hown hb1
      have hB1 := hnx.trans (hb1.mono hsz)
      have hsz1 := hB1.size
      have hul := uBytes_le V
      rw [← hn1] at hul
      have HN1 := hide hn1
      have HC1 := hide hc1
      clear hown hnx hn1 hc1 hO1 hb1
      go_wp2_with (at_builtin; refine wpList_append_own _ rfl _ _ 23 rfl w.heap.size 5 i0 (.int .u8 0) 1 1 Tryd.underlying23 hi hz0 hz1 hz2 rfl (by decide) _ _ _ rfl hown1 ⟨g1, 0, none⟩ n1 c1 ((uBytes V).map (Value.int .u8)) rfl (by rw [HN1.out]; simp) (unhide HC1) (u8_one _) (by unfold maxLen; omega) (by omega) hsz1 ?_; intro v2 w2 hown2 hgrow2 _)
      have hB2 := hB1.grown hgrow2 hsz1 (fun j hj => (hown1.lt j hj).1)
      have hsz2 := hB2.size
      clear hown1 hB1 hgrow2
      have hq2 := ((unhide HB).below hB2).firstG (show q ≤ 200 by omega)
      refine (bytes_head hq2 (by rw [List.length_take]; have := HL.out; omega)).mono ?_
      rintro e w3 ⟨g3, n3, c3, rfl, hn3, hO3, hc3, hb3⟩
      have hown3 := owns_below hown2 hb3
      have hB3 := hB2.trans (hb3.mono hsz2)
      have hsz3 := hB3.size
      have hbl := bB_len (ys.take q)
      have hql : (ys.take q).length = q := by rw [List.length_take]; have := HL.out; omega
      rw [← hn3, hql] at hbl
      have HN3 := hide hn3
      have HC3 := hide hc3
      clear hown2 hn3 hc3 hO3 hb3 hB2 hql hq2
      go_wp2_with (at_builtin; refine wpList_append_own _ rfl _ _ 23 rfl w.heap.size 5 i0 (.int .u8 0) 1 1 Tryd.underlying23 hi hz0 hz1 hz2 rfl (by decide) _ _ _ rfl hown3 ⟨g3, 0, none⟩ n3 c3 ((bB (ys.take q)).map (Value.int .u8)) rfl (by rw [HN3.out]; simp) (unhide HC3) (u8_one _) (by unfold maxLen; omega) (by omega) hsz3 ?_; intro v4 w4 hown4 hgrow4 _)
      have hB4 := hB3.grown hgrow4 hsz3 (fun j hj => (hown3.lt j hj).1)
      clear hown3 hB3 hgrow4
      have e1 : enc S ys (k + 1) = enc S ys k ++ (uBytes V ++ bB (ys.take q)) := by rw [enc, ← HV.out, yk, ← HL.out, ← HQ.out]
      have hown5 : w4.ownsRow w.heap.size 5 1 v4 (enc S ys (k + 1)).length ((enc S ys (k + 1)).map (Value.int .u8)) := by
        rw [e1, List.map_append, List.map_append, List.length_append, List.length_append, ← HLE.out, ← HN1.out, ← HN3.out, ← Nat.add_assoc, ← List.append_assoc]
        exact hown4
      clear hown4 e1
      go_roundw
      case rel => exact ⟨k + 1, by omega, by go_num, hown5, hB4⟩
      case measure => simp [intOf]; omega
    · have HK : Hid (k = 1) := by show _ = _; omega
      have hdk : decide ((k : Int) < 1) = false := by simp; omega
      have hLp : 0 < L := by
        obtain ⟨rest, hr⟩ := enc_split S ys (show 0 < k by omega)
        have h := uBytes_pos (mulU S 0)
        rw [HLE.out, hr]
        simp only [List.length_append]
        omega
      have hby : ∀ x ∈ enc S ys k, 0 ≤ x ∧ x ≤ 255 := enc_bytes (unhide HB).mem HYL.out _
      have hI : IsB wr u7 (enc S ys k) := by
        refine isB_owns (base := w.heap.size) (n := L) ?_ hby
        exact hown
      obtain ⟨g, cp, rfl, hcp1, hcp2, -, -⟩ := owns_shape hown hLp
      have HI := hide hI
      have hBW := hnx
      clear hown hI hby hnx
      go_wp2_with fail
      go_loopw [9, 10] (fun p i wq => ∃ j A : Nat, j ≤ 1 ∧ A ≤ L ∧ i = .int .i64 (j : Int) ∧ p = .int .i64 (A : Int) ∧ Hid (A = (enc S ys j).length) ∧ Below wr.heap.size wr wq) (fun _ i _ => 1 - (intOf i).toNat)
      case atStart => exact ⟨0, 0, by omega, by omega, rfl, rfl, rfl, Below.refl _ _⟩
      case round =>
        obtain ⟨j, A, hk, hAL, rfl, rfl, HA, hnx⟩ := hrel
        have hsz2 := hnx.size
        by_cases hlt2 : j < 1
        · obtain ⟨V, hV⟩ : ∃ V, V = mulU S j := ⟨_, rfl⟩
          have hmul : IntKind.u64.wrap (S * (j : Int)) = V := hV.symm
          have hVb := mulU_bd S j
          rw [← hV] at hVb
          obtain ⟨hV0, hV1⟩ := hVb
          obtain ⟨q, hqd⟩ : ∃ q, q = j % (200 + 1) := ⟨_, rfl⟩
          have hq : (j : Int) % (201) = (q : Int) := by rw [hqd]; omega
          have hqm : q < 200 + 1 := by rw [hqd]; exact Nat.mod_lt _ (by omega)
          have hyk : yk ys j = ys.take q := by rw [yk, ← HL.out, ← hqd]
          clear hqd
          obtain ⟨rest, hr⟩ := enc_split S ys (show j < k by have := HK.out; omega)
          rw [← hV, hyk] at hr
          obtain ⟨P, hP⟩ : ∃ P, P = A + (uBytes V).length := ⟨_, rfl⟩
          obtain ⟨A', hA'⟩ : ∃ A', A' = P + (bB (ys.take q)).length := ⟨_, rfl⟩
          have hru : rdU (enc S ys k) (A : Int) = (V, (P : Int), 0) := by
            rw [hr, HA.out, rdU_back hV0 (top9 hV1), hP, HA.out, Int.natCast_add]
          have hylen : (ys.take q).length ≤ 200 := by rw [List.length_take]; have := HYL.out; omega
          have hrb : rdB (enc S ys k) (P : Int) 200 = (ys.take q, (A' : Int), 0) := by
            have e : enc S ys k = (enc S ys j ++ uBytes V) ++ (bB (ys.take q) ++ rest) := by rw [hr, List.append_assoc]
            have eP : (P : Int) = ((enc S ys j ++ uBytes V).length : Int) := by rw [hP, HA.out, List.length_append]
            rw [e, eP, rdB_back (by omega) (by omega), hA', ← Int.natCast_add, List.length_append, hP, HA.out]
          have hnext : A' = (enc S ys (j + 1)).length := by
            rw [enc, ← hV, hyk, List.length_append, List.length_append, hA', hP, HA.out, Nat.add_assoc]
          have hA'L : A' ≤ L := by
            have := congrArg List.length hr
            rw [← HLE.out, List.length_append, List.length_append, List.length_append, ← HA.out] at this
            omega
          have HRU := hide hru
          have HRB := hide hrb
          have HNX := hide hnext
          have HYQ := hide hylen
          clear hV hyk hr hP hA' hru hrb hnext hylen
          go_wp2_with fail
          refine (ruint_e ((unhide HI).below hnx) (unhide HRU)).mono ?_
          rintro e w5 ⟨rfl, hw5⟩
          obtain rfl := hw5.symm
          clear hw5
          go_wp2_with (go_at_call 15; refine (num_calls _ _).mono ?_; rintro e w' ⟨rfl, hw'⟩; obtain rfl := hw'.symm)
          refine (rbytes_e ((unhide HI).below hnx) (by rw [← HLE.out]; omega) (by omega) (unhide HRB)).mono ?_
          rintro e w6 ⟨a6, n6, c6, rfl, hown6, hb6⟩
          have hx6 : IsB w6 (.slice a6 n6 c6) (ys.take q) := isB_owns hown6 (fun x hx => (unhide HB).mem x (List.mem_of_mem_take hx))
          have hB6 := hnx.trans (hb6.mono hsz2)
          have hq6 := ((unhide HB).below (hBW.trans (hB6.mono hBW.size))).firstG (show q ≤ 200 by omega)
          have HX6 := hide hx6
          have HQ6 := hide hq6
          clear hown6 hb6 hnx hx6 hq6
          go_wp2_with (go_at_call 15; refine (num_calls _ _).mono ?_; rintro e w' ⟨rfl, hw'⟩; obtain rfl := hw'.symm)
          refine (same_yes (unhide HX6) (unhide HQ6)).mono ?_
          rintro e w7 ⟨rfl, hw7⟩
          obtain rfl := hw7.symm
          clear hw7
          go_wp2
          go_roundw
          case rel => exact ⟨j + 1, A', by omega, hA'L, by go_num, rfl, HNX, hB6⟩
          case measure => simp [intOf]; omega
        · obtain rfl : A = L := by rw [HA.out, HLE.out, show j = k by have := HK.out; omega]
          have hB := hBW.trans (hnx.mono hBW.size)
          go_wp2_with fail
          refine (started_calls _ ((unhide HT).below hB)).mono ?_
          rintro e w5 ⟨rfl, hb5⟩
          go_wp2
          go_ret
          exact ⟨rfl, hB.trans (hb5.mono hB.size)⟩

set_option maxRecDepth 100000 in
set_option maxHeartbeats 1000000 in
theorem many_a2 {S : Int} {n : Int} {w : World} {a : Option Addr} {m cap : Nat} {xs ys : List Int} (hn : n < 1) (_hn2 : -9223372036854775808 ≤ n) (hb : IsB w (.slice a m cap) xs) (hy : ys = xs.take m) (hm : m ≤ 200) (hmc : m ≤ cap) (_hcm : cap ≤ 9223372036854775807) (ht : Tab w) :
    Calls Tryd.prog 4 #[.int .i64 n, .int .u64 S, .slice a m cap] w fun e w' => e = .returned (.bool true) ∧ Below w.heap.size w w' := by
  have HT := hide ht
  obtain ⟨i0, hi, hz0, hz1, hz2⟩ := info_parts info8
  have hbf : IsB w (.slice a m cap) ys := by rw [hy]; exact hb.firstG (Nat.le_refl _)
  have HL := hide hbf.lenEq
  have HB := hide hbf
  have hyl : ys.length ≤ 200 := by rw [← HL.out]; omega
  have HYL := hide hyl
  clear ht hb hbf hy hyl
  have hdm : decide ((200 : Int) < (m : Int)) = false := by simp; omega
  go_enter Tryd.func4, Tryd.ntmps4
  go_wp2_with fail
  go_loopw [7, 8] (fun v i wr => ∃ k : Nat, k ≤ 1 ∧ i = .int .i64 (k : Int) ∧ wr.ownsRow w.heap.size 5 1 v (enc S ys k).length ((enc S ys k).map (Value.int .u8)) ∧ Below w.heap.size w wr) (fun _ i _ => 1 - (intOf i).toNat)
  case atStart => exact ⟨0, by omega, rfl, World.ownsRow_nil _ _ _ _, Below.refl _ _⟩
  case round =>
    obtain ⟨k, hk, rfl, hown, hnx⟩ := hrel
    have hsz := hnx.size
    have hel := enc_len (S := S) HYL.out k
    obtain ⟨L, hL⟩ : ∃ L, L = (enc S ys k).length := ⟨_, rfl⟩
    rw [← hL] at hown hel
    have HLE := hide hL
    clear hL
    by_cases hlt : k < 1
    · obtain ⟨V, hV⟩ : ∃ V, V = mulU S k := ⟨_, rfl⟩
      have hmul : IntKind.u64.wrap (S * (k : Int)) = V := hV.symm
      have hVb := mulU_bd S k
      rw [← hV] at hVb
      obtain ⟨hV0, hV1⟩ := hVb
      have HV := hide hV
      clear hV
      obtain ⟨q, hqd⟩ : ∃ q, q = k % (m + 1) := ⟨_, rfl⟩
      have hq : (k : Int) % ((m : Int) + 1) = (q : Int) := by rw [hqd]; exact mod_succ k m
      have hqm : q < m + 1 := by rw [hqd]; exact Nat.mod_lt _ (by omega)
      have HQ := hide hqd
      clear hqd
      go_wp2_with fail
      refine (uint_head _ hV0 (top9 hV1)).mono ?_
      rintro e w1 ⟨g1, n1, c1, rfl, hn1, hO1, hc1, hb1⟩
      have hown1 := owns_below hown hb1
      have hB1 := hnx.trans (hb1.mono hsz)
      have hsz1 := hB1.size
      have hul := uBytes_le V
      rw [← hn1] at hul
      have HN1 := hide hn1
      have HC1 := hide hc1
      clear hown hnx hn1 hc1 hO1 hb1
      go_wp2_with (at_builtin; refine wpList_append_own _ rfl _ _ 23 rfl w.heap.size 5 i0 (.int .u8 0) 1 1 Tryd.underlying23 hi hz0 hz1 hz2 rfl (by decide) _ _ _ rfl hown1 ⟨g1, 0, none⟩ n1 c1 ((uBytes V).map (Value.int .u8)) rfl (by rw [HN1.out]; simp) (unhide HC1) (u8_one _) (by unfold maxLen; omega) (by omega) hsz1 ?_; intro v2 w2 hown2 hgrow2 _)
      have hB2 := hB1.grown hgrow2 hsz1 (fun j hj => (hown1.lt j hj).1)
      have hsz2 := hB2.size
      clear hown1 hB1 hgrow2
      have hq2 := ((unhide HB).below hB2).firstG (show q ≤ m by omega)
      refine (bytes_head hq2 (by rw [List.length_take]; have := HL.out; omega)).mono ?_
      rintro e w3 ⟨g3, n3, c3, rfl, hn3, hO3, hc3, hb3⟩
      have hown3 := owns_below hown2 hb3
      have hB3 := hB2.trans (hb3.mono hsz2)
      have hsz3 := hB3.size
      have hbl := bB_len (ys.take q)
      have hql : (ys.take q).length = q := by rw [List.length_take]; have := HL.out; omega
      rw [← hn3, hql] at hbl
      have HN3 := hide hn3
      have HC3 := hide hc3
      clear hown2 hn3 hc3 hO3 hb3 hB2 hql hq2
      go_wp2_with (at_builtin; refine wpList_append_own _ rfl _ _ 23 rfl w.heap.size 5 i0 (.int .u8 0) 1 1 Tryd.underlying23 hi hz0 hz1 hz2 rfl (by decide) _ _ _ rfl hown3 ⟨g3, 0, none⟩ n3 c3 ((bB (ys.take q)).map (Value.int .u8)) rfl (by rw [HN3.out]; simp) (unhide HC3) (u8_one _) (by unfold maxLen; omega) (by omega) hsz3 ?_; intro v4 w4 hown4 hgrow4 _)
      have hB4 := hB3.grown hgrow4 hsz3 (fun j hj => (hown3.lt j hj).1)
      clear hown3 hB3 hgrow4
      have e1 : enc S ys (k + 1) = enc S ys k ++ (uBytes V ++ bB (ys.take q)) := by rw [enc, ← HV.out, yk, ← HL.out, ← HQ.out]
      have hown5 : w4.ownsRow w.heap.size 5 1 v4 (enc S ys (k + 1)).length ((enc S ys (k + 1)).map (Value.int .u8)) := by
        rw [e1, List.map_append, List.map_append, List.length_append, List.length_append, ← HLE.out, ← HN1.out, ← HN3.out, ← Nat.add_assoc, ← List.append_assoc]
        exact hown4
      clear hown4 e1
      go_roundw
      case rel => exact ⟨k + 1, by omega, by go_num, hown5, hB4⟩
      case measure => simp [intOf]; omega
    · have HK : Hid (k = 1) := by show _ = _; omega
      have hdk : decide ((k : Int) < 1) = false := by simp; omega
      have hLp : 0 < L := by
        obtain ⟨rest, hr⟩ := enc_split S ys (show 0 < k by omega)
        have h := uBytes_pos (mulU S 0)
        rw [HLE.out, hr]
        simp only [List.length_append]
        omega
      have hby : ∀ x ∈ enc S ys k, 0 ≤ x ∧ x ≤ 255 := enc_bytes (unhide HB).mem HYL.out _
      have hI : IsB wr u7 (enc S ys k) := by
        refine isB_owns (base := w.heap.size) (n := L) ?_ hby
        exact hown
      obtain ⟨g, cp, rfl, hcp1, hcp2, -, -⟩ := owns_shape hown hLp
      have HI := hide hI
      have hBW := hnx
      clear hown hI hby hnx
      go_wp2_with fail
      go_loopw [9, 10] (fun p i wq => ∃ j A : Nat, j ≤ 1 ∧ A ≤ L ∧ i = .int .i64 (j : Int) ∧ p = .int .i64 (A : Int) ∧ Hid (A = (enc S ys j).length) ∧ Below wr.heap.size wr wq) (fun _ i _ => 1 - (intOf i).toNat)
      case atStart => exact ⟨0, 0, by omega, by omega, rfl, rfl, rfl, Below.refl _ _⟩
      case round =>
        obtain ⟨j, A, hk, hAL, rfl, rfl, HA, hnx⟩ := hrel
        have hsz2 := hnx.size
        by_cases hlt2 : j < 1
        · obtain ⟨V, hV⟩ : ∃ V, V = mulU S j := ⟨_, rfl⟩
          have hmul : IntKind.u64.wrap (S * (j : Int)) = V := hV.symm
          have hVb := mulU_bd S j
          rw [← hV] at hVb
          obtain ⟨hV0, hV1⟩ := hVb
          obtain ⟨q, hqd⟩ : ∃ q, q = j % (m + 1) := ⟨_, rfl⟩
          have hq : (j : Int) % ((m : Int) + 1) = (q : Int) := by rw [hqd]; exact mod_succ j m
          have hqm : q < m + 1 := by rw [hqd]; exact Nat.mod_lt _ (by omega)
          have hyk : yk ys j = ys.take q := by rw [yk, ← HL.out, ← hqd]
          clear hqd
          obtain ⟨rest, hr⟩ := enc_split S ys (show j < k by have := HK.out; omega)
          rw [← hV, hyk] at hr
          obtain ⟨P, hP⟩ : ∃ P, P = A + (uBytes V).length := ⟨_, rfl⟩
          obtain ⟨A', hA'⟩ : ∃ A', A' = P + (bB (ys.take q)).length := ⟨_, rfl⟩
          have hru : rdU (enc S ys k) (A : Int) = (V, (P : Int), 0) := by
            rw [hr, HA.out, rdU_back hV0 (top9 hV1), hP, HA.out, Int.natCast_add]
          have hylen : (ys.take q).length ≤ 200 := by rw [List.length_take]; have := HYL.out; omega
          have hrb : rdB (enc S ys k) (P : Int) 200 = (ys.take q, (A' : Int), 0) := by
            have e : enc S ys k = (enc S ys j ++ uBytes V) ++ (bB (ys.take q) ++ rest) := by rw [hr, List.append_assoc]
            have eP : (P : Int) = ((enc S ys j ++ uBytes V).length : Int) := by rw [hP, HA.out, List.length_append]
            rw [e, eP, rdB_back (by omega) (by omega), hA', ← Int.natCast_add, List.length_append, hP, HA.out]
          have hnext : A' = (enc S ys (j + 1)).length := by
            rw [enc, ← hV, hyk, List.length_append, List.length_append, hA', hP, HA.out, Nat.add_assoc]
          have hA'L : A' ≤ L := by
            have := congrArg List.length hr
            rw [← HLE.out, List.length_append, List.length_append, List.length_append, ← HA.out] at this
            omega
          have HRU := hide hru
          have HRB := hide hrb
          have HNX := hide hnext
          have HYQ := hide hylen
          clear hV hyk hr hP hA' hru hrb hnext hylen
          go_wp2_with fail
          refine (ruint_e ((unhide HI).below hnx) (unhide HRU)).mono ?_
          rintro e w5 ⟨rfl, hw5⟩
          obtain rfl := hw5.symm
          clear hw5
          go_wp2_with (go_at_call 15; refine (num_calls _ _).mono ?_; rintro e w' ⟨rfl, hw'⟩; obtain rfl := hw'.symm)
          refine (rbytes_e ((unhide HI).below hnx) (by rw [← HLE.out]; omega) (by omega) (unhide HRB)).mono ?_
          rintro e w6 ⟨a6, n6, c6, rfl, hown6, hb6⟩
          have hx6 : IsB w6 (.slice a6 n6 c6) (ys.take q) := isB_owns hown6 (fun x hx => (unhide HB).mem x (List.mem_of_mem_take hx))
          have hB6 := hnx.trans (hb6.mono hsz2)
          have hq6 := ((unhide HB).below (hBW.trans (hB6.mono hBW.size))).firstG (show q ≤ m by omega)
          have HX6 := hide hx6
          have HQ6 := hide hq6
          clear hown6 hb6 hnx hx6 hq6
          go_wp2_with (go_at_call 15; refine (num_calls _ _).mono ?_; rintro e w' ⟨rfl, hw'⟩; obtain rfl := hw'.symm)
          refine (same_yes (unhide HX6) (unhide HQ6)).mono ?_
          rintro e w7 ⟨rfl, hw7⟩
          obtain rfl := hw7.symm
          clear hw7
          go_wp2
          go_roundw
          case rel => exact ⟨j + 1, A', by omega, hA'L, by go_num, rfl, HNX, hB6⟩
          case measure => simp [intOf]; omega
        · obtain rfl : A = L := by rw [HA.out, HLE.out, show j = k by have := HK.out; omega]
          have hB := hBW.trans (hnx.mono hBW.size)
          go_wp2_with fail
          refine (started_calls _ ((unhide HT).below hB)).mono ?_
          rintro e w5 ⟨rfl, hb5⟩
          go_wp2
          go_ret
          exact ⟨rfl, hB.trans (hb5.mono hB.size)⟩

set_option maxRecDepth 100000 in
set_option maxHeartbeats 1000000 in
theorem many_b1 {S : Int} {N : Nat} {w : World} {a : Option Addr} {m cap : Nat} {xs ys : List Int} (hn : 1 ≤ N) (_hn2 : N ≤ 3000) (hb : IsB w (.slice a m cap) xs) (hy : ys = xs.take 200) (hm : 200 < m) (hmc : m ≤ cap) (_hcm : cap ≤ 9223372036854775807) (ht : Tab w) :
    Calls Tryd.prog 4 #[.int .i64 (N : Int), .int .u64 S, .slice a m cap] w fun e w' => e = .returned (.bool true) ∧ Below w.heap.size w w' := by
  have HT := hide ht
  obtain ⟨i0, hi, hz0, hz1, hz2⟩ := info_parts info8
  have hbf : IsB w (.slice a 200 cap) ys := by rw [hy]; exact hb.firstG (by omega)
  have HL := hide hbf.lenEq
  have HB := hide hbf
  have hyl : ys.length ≤ 200 := by rw [← HL.out]; omega
  have HYL := hide hyl
  clear ht hb hbf hy hyl
  have hdm : decide ((200 : Int) < (m : Int)) = true := by simp; omega
  go_enter Tryd.func4, Tryd.ntmps4
  go_wp2_with fail
  go_loopw [7, 8] (fun v i wr => ∃ k : Nat, k ≤ N ∧ i = .int .i64 (k : Int) ∧ wr.ownsRow w.heap.size 5 1 v (enc S ys k).length ((enc S ys k).map (Value.int .u8)) ∧ Below w.heap.size w wr) (fun _ i _ => N - (intOf i).toNat)
  case atStart => exact ⟨0, by omega, rfl, World.ownsRow_nil _ _ _ _, Below.refl _ _⟩
  case round =>
    obtain ⟨k, hk, rfl, hown, hnx⟩ := hrel
    have hsz := hnx.size
    have hel := enc_len (S := S) HYL.out k
    obtain ⟨L, hL⟩ : ∃ L, L = (enc S ys k).length := ⟨_, rfl⟩
    rw [← hL] at hown hel
    have HLE := hide hL
    clear hL
    by_cases hlt : k < N
    · obtain ⟨V, hV⟩ : ∃ V, V = mulU S k := ⟨_, rfl⟩
      have hmul : IntKind.u64.wrap (S * (k : Int)) = V := hV.symm
      have hVb := mulU_bd S k
      rw [← hV] at hVb
      obtain ⟨hV0, hV1⟩ := hVb
      have HV := hide hV
      clear hV
      obtain ⟨q, hqd⟩ : ∃ q, q = k % (200 + 1) := ⟨_, rfl⟩
      have hq : (k : Int) % (201) = (q : Int) := by rw [hqd]; omega
      have hqm : q < 200 + 1 := by rw [hqd]; exact Nat.mod_lt _ (by omega)
      have HQ := hide hqd
      clear hqd
      go_wp2_with fail
      refine (uint_head _ hV0 (top9 hV1)).mono ?_
      rintro e w1 ⟨g1, n1, c1, rfl, hn1, hO1, hc1, hb1⟩
      have hown1 := owns_below hown hb1
      have hB1 := hnx.trans (hb1.mono hsz)
      have hsz1 := hB1.size
      have hul := uBytes_le V
      rw [← hn1] at hul
      have HN1 := hide hn1
      have HC1 := hide hc1
      clear hown hnx hn1 hc1 hO1 hb1
      go_wp2_with (at_builtin; refine wpList_append_own _ rfl _ _ 23 rfl w.heap.size 5 i0 (.int .u8 0) 1 1 Tryd.underlying23 hi hz0 hz1 hz2 rfl (by decide) _ _ _ rfl hown1 ⟨g1, 0, none⟩ n1 c1 ((uBytes V).map (Value.int .u8)) rfl (by rw [HN1.out]; simp) (unhide HC1) (u8_one _) (by unfold maxLen; omega) (by omega) hsz1 ?_; intro v2 w2 hown2 hgrow2 _)
      have hB2 := hB1.grown hgrow2 hsz1 (fun j hj => (hown1.lt j hj).1)
      have hsz2 := hB2.size
      clear hown1 hB1 hgrow2
      have hq2 := ((unhide HB).below hB2).firstG (show q ≤ 200 by omega)
      refine (bytes_head hq2 (by rw [List.length_take]; have := HL.out; omega)).mono ?_
      rintro e w3 ⟨g3, n3, c3, rfl, hn3, hO3, hc3, hb3⟩
      have hown3 := owns_below hown2 hb3
      have hB3 := hB2.trans (hb3.mono hsz2)
      have hsz3 := hB3.size
      have hbl := bB_len (ys.take q)
      have hql : (ys.take q).length = q := by rw [List.length_take]; have := HL.out; omega
      rw [← hn3, hql] at hbl
      have HN3 := hide hn3
      have HC3 := hide hc3
      clear hown2 hn3 hc3 hO3 hb3 hB2 hql hq2
      go_wp2_with (at_builtin; refine wpList_append_own _ rfl _ _ 23 rfl w.heap.size 5 i0 (.int .u8 0) 1 1 Tryd.underlying23 hi hz0 hz1 hz2 rfl (by decide) _ _ _ rfl hown3 ⟨g3, 0, none⟩ n3 c3 ((bB (ys.take q)).map (Value.int .u8)) rfl (by rw [HN3.out]; simp) (unhide HC3) (u8_one _) (by unfold maxLen; omega) (by omega) hsz3 ?_; intro v4 w4 hown4 hgrow4 _)
      have hB4 := hB3.grown hgrow4 hsz3 (fun j hj => (hown3.lt j hj).1)
      clear hown3 hB3 hgrow4
      have e1 : enc S ys (k + 1) = enc S ys k ++ (uBytes V ++ bB (ys.take q)) := by rw [enc, ← HV.out, yk, ← HL.out, ← HQ.out]
      have hown5 : w4.ownsRow w.heap.size 5 1 v4 (enc S ys (k + 1)).length ((enc S ys (k + 1)).map (Value.int .u8)) := by
        rw [e1, List.map_append, List.map_append, List.length_append, List.length_append, ← HLE.out, ← HN1.out, ← HN3.out, ← Nat.add_assoc, ← List.append_assoc]
        exact hown4
      clear hown4 e1
      go_roundw
      case rel => exact ⟨k + 1, by omega, by go_num, hown5, hB4⟩
      case measure => simp [intOf]; omega
    · have HK : Hid (k = N) := by show _ = _; omega
      have hdk : decide ((k : Int) < (N : Int)) = false := by simp; omega
      have hLp : 0 < L := by
        obtain ⟨rest, hr⟩ := enc_split S ys (show 0 < k by omega)
        have h := uBytes_pos (mulU S 0)
        rw [HLE.out, hr]
        simp only [List.length_append]
        omega
      have hby : ∀ x ∈ enc S ys k, 0 ≤ x ∧ x ≤ 255 := enc_bytes (unhide HB).mem HYL.out _
      have hI : IsB wr u7 (enc S ys k) := by
        refine isB_owns (base := w.heap.size) (n := L) ?_ hby
        exact hown
      obtain ⟨g, cp, rfl, hcp1, hcp2, -, -⟩ := owns_shape hown hLp
      have HI := hide hI
      have hBW := hnx
      clear hown hI hby hnx
      go_wp2_with fail
      go_loopw [9, 10] (fun p i wq => ∃ j A : Nat, j ≤ N ∧ A ≤ L ∧ i = .int .i64 (j : Int) ∧ p = .int .i64 (A : Int) ∧ Hid (A = (enc S ys j).length) ∧ Below wr.heap.size wr wq) (fun _ i _ => N - (intOf i).toNat)
      case atStart => exact ⟨0, 0, by omega, by omega, rfl, rfl, rfl, Below.refl _ _⟩
      case round =>
        obtain ⟨j, A, hk, hAL, rfl, rfl, HA, hnx⟩ := hrel
        have hsz2 := hnx.size
        by_cases hlt2 : j < N
        · obtain ⟨V, hV⟩ : ∃ V, V = mulU S j := ⟨_, rfl⟩
          have hmul : IntKind.u64.wrap (S * (j : Int)) = V := hV.symm
          have hVb := mulU_bd S j
          rw [← hV] at hVb
          obtain ⟨hV0, hV1⟩ := hVb
          obtain ⟨q, hqd⟩ : ∃ q, q = j % (200 + 1) := ⟨_, rfl⟩
          have hq : (j : Int) % (201) = (q : Int) := by rw [hqd]; omega
          have hqm : q < 200 + 1 := by rw [hqd]; exact Nat.mod_lt _ (by omega)
          have hyk : yk ys j = ys.take q := by rw [yk, ← HL.out, ← hqd]
          clear hqd
          obtain ⟨rest, hr⟩ := enc_split S ys (show j < k by have := HK.out; omega)
          rw [← hV, hyk] at hr
          obtain ⟨P, hP⟩ : ∃ P, P = A + (uBytes V).length := ⟨_, rfl⟩
          obtain ⟨A', hA'⟩ : ∃ A', A' = P + (bB (ys.take q)).length := ⟨_, rfl⟩
          have hru : rdU (enc S ys k) (A : Int) = (V, (P : Int), 0) := by
            rw [hr, HA.out, rdU_back hV0 (top9 hV1), hP, HA.out, Int.natCast_add]
          have hylen : (ys.take q).length ≤ 200 := by rw [List.length_take]; have := HYL.out; omega
          have hrb : rdB (enc S ys k) (P : Int) 200 = (ys.take q, (A' : Int), 0) := by
            have e : enc S ys k = (enc S ys j ++ uBytes V) ++ (bB (ys.take q) ++ rest) := by rw [hr, List.append_assoc]
            have eP : (P : Int) = ((enc S ys j ++ uBytes V).length : Int) := by rw [hP, HA.out, List.length_append]
            rw [e, eP, rdB_back (by omega) (by omega), hA', ← Int.natCast_add, List.length_append, hP, HA.out]
          have hnext : A' = (enc S ys (j + 1)).length := by
            rw [enc, ← hV, hyk, List.length_append, List.length_append, hA', hP, HA.out, Nat.add_assoc]
          have hA'L : A' ≤ L := by
            have := congrArg List.length hr
            rw [← HLE.out, List.length_append, List.length_append, List.length_append, ← HA.out] at this
            omega
          have HRU := hide hru
          have HRB := hide hrb
          have HNX := hide hnext
          have HYQ := hide hylen
          clear hV hyk hr hP hA' hru hrb hnext hylen
          go_wp2_with fail
          refine (ruint_e ((unhide HI).below hnx) (unhide HRU)).mono ?_
          rintro e w5 ⟨rfl, hw5⟩
          obtain rfl := hw5.symm
          clear hw5
          go_wp2_with (go_at_call 15; refine (num_calls _ _).mono ?_; rintro e w' ⟨rfl, hw'⟩; obtain rfl := hw'.symm)
          refine (rbytes_e ((unhide HI).below hnx) (by rw [← HLE.out]; omega) (by omega) (unhide HRB)).mono ?_
          rintro e w6 ⟨a6, n6, c6, rfl, hown6, hb6⟩
          have hx6 : IsB w6 (.slice a6 n6 c6) (ys.take q) := isB_owns hown6 (fun x hx => (unhide HB).mem x (List.mem_of_mem_take hx))
          have hB6 := hnx.trans (hb6.mono hsz2)
          have hq6 := ((unhide HB).below (hBW.trans (hB6.mono hBW.size))).firstG (show q ≤ 200 by omega)
          have HX6 := hide hx6
          have HQ6 := hide hq6
          clear hown6 hb6 hnx hx6 hq6
          go_wp2_with (go_at_call 15; refine (num_calls _ _).mono ?_; rintro e w' ⟨rfl, hw'⟩; obtain rfl := hw'.symm)
          refine (same_yes (unhide HX6) (unhide HQ6)).mono ?_
          rintro e w7 ⟨rfl, hw7⟩
          obtain rfl := hw7.symm
          clear hw7
          go_wp2
          go_roundw
          case rel => exact ⟨j + 1, A', by omega, hA'L, by go_num, rfl, HNX, hB6⟩
          case measure => simp [intOf]; omega
        · obtain rfl : A = L := by rw [HA.out, HLE.out, show j = k by have := HK.out; omega]
          have hB := hBW.trans (hnx.mono hBW.size)
          go_wp2_with fail
          refine (started_calls _ ((unhide HT).below hB)).mono ?_
          rintro e w5 ⟨rfl, hb5⟩
          go_wp2
          go_ret
          exact ⟨rfl, hB.trans (hb5.mono hB.size)⟩

set_option maxRecDepth 100000 in
set_option maxHeartbeats 1000000 in
theorem many_b2 {S : Int} {N : Nat} {w : World} {a : Option Addr} {m cap : Nat} {xs ys : List Int} (hn : 1 ≤ N) (_hn2 : N ≤ 3000) (hb : IsB w (.slice a m cap) xs) (hy : ys = xs.take m) (hm : m ≤ 200) (hmc : m ≤ cap) (_hcm : cap ≤ 9223372036854775807) (ht : Tab w) :
    Calls Tryd.prog 4 #[.int .i64 (N : Int), .int .u64 S, .slice a m cap] w fun e w' => e = .returned (.bool true) ∧ Below w.heap.size w w' := by
  have HT := hide ht
  obtain ⟨i0, hi, hz0, hz1, hz2⟩ := info_parts info8
  have hbf : IsB w (.slice a m cap) ys := by rw [hy]; exact hb.firstG (Nat.le_refl _)
  have HL := hide hbf.lenEq
  have HB := hide hbf
  have hyl : ys.length ≤ 200 := by rw [← HL.out]; omega
  have HYL := hide hyl
  clear ht hb hbf hy hyl
  have hdm : decide ((200 : Int) < (m : Int)) = false := by simp; omega
  go_enter Tryd.func4, Tryd.ntmps4
  go_wp2_with fail
  go_loopw [7, 8] (fun v i wr => ∃ k : Nat, k ≤ N ∧ i = .int .i64 (k : Int) ∧ wr.ownsRow w.heap.size 5 1 v (enc S ys k).length ((enc S ys k).map (Value.int .u8)) ∧ Below w.heap.size w wr) (fun _ i _ => N - (intOf i).toNat)
  case atStart => exact ⟨0, by omega, rfl, World.ownsRow_nil _ _ _ _, Below.refl _ _⟩
  case round =>
    obtain ⟨k, hk, rfl, hown, hnx⟩ := hrel
    have hsz := hnx.size
    have hel := enc_len (S := S) HYL.out k
    obtain ⟨L, hL⟩ : ∃ L, L = (enc S ys k).length := ⟨_, rfl⟩
    rw [← hL] at hown hel
    have HLE := hide hL
    clear hL
    by_cases hlt : k < N
    · obtain ⟨V, hV⟩ : ∃ V, V = mulU S k := ⟨_, rfl⟩
      have hmul : IntKind.u64.wrap (S * (k : Int)) = V := hV.symm
      have hVb := mulU_bd S k
      rw [← hV] at hVb
      obtain ⟨hV0, hV1⟩ := hVb
      have HV := hide hV
      clear hV
      obtain ⟨q, hqd⟩ : ∃ q, q = k % (m + 1) := ⟨_, rfl⟩
      have hq : (k : Int) % ((m : Int) + 1) = (q : Int) := by rw [hqd]; exact mod_succ k m
      have hqm : q < m + 1 := by rw [hqd]; exact Nat.mod_lt _ (by omega)
      have HQ := hide hqd
      clear hqd
      go_wp2_with fail
      refine (uint_head _ hV0 (top9 hV1)).mono ?_
      rintro e w1 ⟨g1, n1, c1, rfl, hn1, hO1, hc1, hb1⟩
      have hown1 := owns_below hown hb1
      have hB1 := hnx.trans (hb1.mono hsz)
      have hsz1 := hB1.size
      have hul := uBytes_le V
      rw [← hn1] at hul
      have HN1 := hide hn1
      have HC1 := hide hc1
      clear hown hnx hn1 hc1 hO1 hb1
      go_wp2_with (at_builtin; refine wpList_append_own _ rfl _ _ 23 rfl w.heap.size 5 i0 (.int .u8 0) 1 1 Tryd.underlying23 hi hz0 hz1 hz2 rfl (by decide) _ _ _ rfl hown1 ⟨g1, 0, none⟩ n1 c1 ((uBytes V).map (Value.int .u8)) rfl (by rw [HN1.out]; simp) (unhide HC1) (u8_one _) (by unfold maxLen; omega) (by omega) hsz1 ?_; intro v2 w2 hown2 hgrow2 _)
      have hB2 := hB1.grown hgrow2 hsz1 (fun j hj => (hown1.lt j hj).1)
      have hsz2 := hB2.size
      clear hown1 hB1 hgrow2
      have hq2 := ((unhide HB).below hB2).firstG (show q ≤ m by omega)
      refine (bytes_head hq2 (by rw [List.length_take]; have := HL.out; omega)).mono ?_
      rintro e w3 ⟨g3, n3, c3, rfl, hn3, hO3, hc3, hb3⟩
      have hown3 := owns_below hown2 hb3
      have hB3 := hB2.trans (hb3.mono hsz2)
      have hsz3 := hB3.size
      have hbl := bB_len (ys.take q)
      have hql : (ys.take q).length = q := by rw [List.length_take]; have := HL.out; omega
      rw [← hn3, hql] at hbl
      have HN3 := hide hn3
      have HC3 := hide hc3
      clear hown2 hn3 hc3 hO3 hb3 hB2 hql hq2
      go_wp2_with (at_builtin; refine wpList_append_own _ rfl _ _ 23 rfl w.heap.size 5 i0 (.int .u8 0) 1 1 Tryd.underlying23 hi hz0 hz1 hz2 rfl (by decide) _ _ _ rfl hown3 ⟨g3, 0, none⟩ n3 c3 ((bB (ys.take q)).map (Value.int .u8)) rfl (by rw [HN3.out]; simp) (unhide HC3) (u8_one _) (by unfold maxLen; omega) (by omega) hsz3 ?_; intro v4 w4 hown4 hgrow4 _)
      have hB4 := hB3.grown hgrow4 hsz3 (fun j hj => (hown3.lt j hj).1)
      clear hown3 hB3 hgrow4
      have e1 : enc S ys (k + 1) = enc S ys k ++ (uBytes V ++ bB (ys.take q)) := by rw [enc, ← HV.out, yk, ← HL.out, ← HQ.out]
      have hown5 : w4.ownsRow w.heap.size 5 1 v4 (enc S ys (k + 1)).length ((enc S ys (k + 1)).map (Value.int .u8)) := by
        rw [e1, List.map_append, List.map_append, List.length_append, List.length_append, ← HLE.out, ← HN1.out, ← HN3.out, ← Nat.add_assoc, ← List.append_assoc]
        exact hown4
      clear hown4 e1
      go_roundw
      case rel => exact ⟨k + 1, by omega, by go_num, hown5, hB4⟩
      case measure => simp [intOf]; omega
    · have HK : Hid (k = N) := by show _ = _; omega
      have hdk : decide ((k : Int) < (N : Int)) = false := by simp; omega
      have hLp : 0 < L := by
        obtain ⟨rest, hr⟩ := enc_split S ys (show 0 < k by omega)
        have h := uBytes_pos (mulU S 0)
        rw [HLE.out, hr]
        simp only [List.length_append]
        omega
      have hby : ∀ x ∈ enc S ys k, 0 ≤ x ∧ x ≤ 255 := enc_bytes (unhide HB).mem HYL.out _
      have hI : IsB wr u7 (enc S ys k) := by
        refine isB_owns (base := w.heap.size) (n := L) ?_ hby
        exact hown
      obtain ⟨g, cp, rfl, hcp1, hcp2, -, -⟩ := owns_shape hown hLp
      have HI := hide hI
      have hBW := hnx
      clear hown hI hby hnx
      go_wp2_with fail
      go_loopw [9, 10] (fun p i wq => ∃ j A : Nat, j ≤ N ∧ A ≤ L ∧ i = .int .i64 (j : Int) ∧ p = .int .i64 (A : Int) ∧ Hid (A = (enc S ys j).length) ∧ Below wr.heap.size wr wq) (fun _ i _ => N - (intOf i).toNat)
      case atStart => exact ⟨0, 0, by omega, by omega, rfl, rfl, rfl, Below.refl _ _⟩
      case round =>
        obtain ⟨j, A, hk, hAL, rfl, rfl, HA, hnx⟩ := hrel
        have hsz2 := hnx.size
        by_cases hlt2 : j < N
        · obtain ⟨V, hV⟩ : ∃ V, V = mulU S j := ⟨_, rfl⟩
          have hmul : IntKind.u64.wrap (S * (j : Int)) = V := hV.symm
          have hVb := mulU_bd S j
          rw [← hV] at hVb
          obtain ⟨hV0, hV1⟩ := hVb
          obtain ⟨q, hqd⟩ : ∃ q, q = j % (m + 1) := ⟨_, rfl⟩
          have hq : (j : Int) % ((m : Int) + 1) = (q : Int) := by rw [hqd]; exact mod_succ j m
          have hqm : q < m + 1 := by rw [hqd]; exact Nat.mod_lt _ (by omega)
          have hyk : yk ys j = ys.take q := by rw [yk, ← HL.out, ← hqd]
          clear hqd
          obtain ⟨rest, hr⟩ := enc_split S ys (show j < k by have := HK.out; omega)
          rw [← hV, hyk] at hr
          obtain ⟨P, hP⟩ : ∃ P, P = A + (uBytes V).length := ⟨_, rfl⟩
          obtain ⟨A', hA'⟩ : ∃ A', A' = P + (bB (ys.take q)).length := ⟨_, rfl⟩
          have hru : rdU (enc S ys k) (A : Int) = (V, (P : Int), 0) := by
            rw [hr, HA.out, rdU_back hV0 (top9 hV1), hP, HA.out, Int.natCast_add]
          have hylen : (ys.take q).length ≤ 200 := by rw [List.length_take]; have := HYL.out; omega
          have hrb : rdB (enc S ys k) (P : Int) 200 = (ys.take q, (A' : Int), 0) := by
            have e : enc S ys k = (enc S ys j ++ uBytes V) ++ (bB (ys.take q) ++ rest) := by rw [hr, List.append_assoc]
            have eP : (P : Int) = ((enc S ys j ++ uBytes V).length : Int) := by rw [hP, HA.out, List.length_append]
            rw [e, eP, rdB_back (by omega) (by omega), hA', ← Int.natCast_add, List.length_append, hP, HA.out]
          have hnext : A' = (enc S ys (j + 1)).length := by
            rw [enc, ← hV, hyk, List.length_append, List.length_append, hA', hP, HA.out, Nat.add_assoc]
          have hA'L : A' ≤ L := by
            have := congrArg List.length hr
            rw [← HLE.out, List.length_append, List.length_append, List.length_append, ← HA.out] at this
            omega
          have HRU := hide hru
          have HRB := hide hrb
          have HNX := hide hnext
          have HYQ := hide hylen
          clear hV hyk hr hP hA' hru hrb hnext hylen
          go_wp2_with fail
          refine (ruint_e ((unhide HI).below hnx) (unhide HRU)).mono ?_
          rintro e w5 ⟨rfl, hw5⟩
          obtain rfl := hw5.symm
          clear hw5
          go_wp2_with (go_at_call 15; refine (num_calls _ _).mono ?_; rintro e w' ⟨rfl, hw'⟩; obtain rfl := hw'.symm)
          refine (rbytes_e ((unhide HI).below hnx) (by rw [← HLE.out]; omega) (by omega) (unhide HRB)).mono ?_
          rintro e w6 ⟨a6, n6, c6, rfl, hown6, hb6⟩
          have hx6 : IsB w6 (.slice a6 n6 c6) (ys.take q) := isB_owns hown6 (fun x hx => (unhide HB).mem x (List.mem_of_mem_take hx))
          have hB6 := hnx.trans (hb6.mono hsz2)
          have hq6 := ((unhide HB).below (hBW.trans (hB6.mono hBW.size))).firstG (show q ≤ m by omega)
          have HX6 := hide hx6
          have HQ6 := hide hq6
          clear hown6 hb6 hnx hx6 hq6
          go_wp2_with (go_at_call 15; refine (num_calls _ _).mono ?_; rintro e w' ⟨rfl, hw'⟩; obtain rfl := hw'.symm)
          refine (same_yes (unhide HX6) (unhide HQ6)).mono ?_
          rintro e w7 ⟨rfl, hw7⟩
          obtain rfl := hw7.symm
          clear hw7
          go_wp2
          go_roundw
          case rel => exact ⟨j + 1, A', by omega, hA'L, by go_num, rfl, HNX, hB6⟩
          case measure => simp [intOf]; omega
        · obtain rfl : A = L := by rw [HA.out, HLE.out, show j = k by have := HK.out; omega]
          have hB := hBW.trans (hnx.mono hBW.size)
          go_wp2_with fail
          refine (started_calls _ ((unhide HT).below hB)).mono ?_
          rintro e w5 ⟨rfl, hb5⟩
          go_wp2
          go_ret
          exact ⟨rfl, hB.trans (hb5.mono hB.size)⟩

set_option maxRecDepth 100000 in
set_option maxHeartbeats 1000000 in
theorem many_c1 {S : Int} {n : Int} {w : World} {a : Option Addr} {m cap : Nat} {xs ys : List Int} (hn : 3000 < n) (_hn2 : n ≤ 9223372036854775807) (hb : IsB w (.slice a m cap) xs) (hy : ys = xs.take 200) (hm : 200 < m) (hmc : m ≤ cap) (_hcm : cap ≤ 9223372036854775807) (ht : Tab w) :
    Calls Tryd.prog 4 #[.int .i64 n, .int .u64 S, .slice a m cap] w fun e w' => e = .returned (.bool true) ∧ Below w.heap.size w w' := by
  have HT := hide ht
  obtain ⟨i0, hi, hz0, hz1, hz2⟩ := info_parts info8
  have hbf : IsB w (.slice a 200 cap) ys := by rw [hy]; exact hb.firstG (by omega)
  have HL := hide hbf.lenEq
  have HB := hide hbf
  have hyl : ys.length ≤ 200 := by rw [← HL.out]; omega
  have HYL := hide hyl
  clear ht hb hbf hy hyl
  have hdm : decide ((200 : Int) < (m : Int)) = true := by simp; omega
  go_enter Tryd.func4, Tryd.ntmps4
  go_wp2_with fail
  go_loopw [7, 8] (fun v i wr => ∃ k : Nat, k ≤ 3000 ∧ i = .int .i64 (k : Int) ∧ wr.ownsRow w.heap.size 5 1 v (enc S ys k).length ((enc S ys k).map (Value.int .u8)) ∧ Below w.heap.size w wr) (fun _ i _ => 3000 - (intOf i).toNat)
  case atStart => exact ⟨0, by omega, rfl, World.ownsRow_nil _ _ _ _, Below.refl _ _⟩
  case round =>
    obtain ⟨k, hk, rfl, hown, hnx⟩ := hrel
    have hsz := hnx.size
    have hel := enc_len (S := S) HYL.out k
    obtain ⟨L, hL⟩ : ∃ L, L = (enc S ys k).length := ⟨_, rfl⟩
    rw [← hL] at hown hel
    have HLE := hide hL
    clear hL
    by_cases hlt : k < 3000
    · obtain ⟨V, hV⟩ : ∃ V, V = mulU S k := ⟨_, rfl⟩
      have hmul : IntKind.u64.wrap (S * (k : Int)) = V := hV.symm
      have hVb := mulU_bd S k
      rw [← hV] at hVb
      obtain ⟨hV0, hV1⟩ := hVb
      have HV := hide hV
      clear hV
      obtain ⟨q, hqd⟩ : ∃ q, q = k % (200 + 1) := ⟨_, rfl⟩
      have hq : (k : Int) % (201) = (q : Int) := by rw [hqd]; omega
      have hqm : q < 200 + 1 := by rw [hqd]; exact Nat.mod_lt _ (by omega)
      have HQ := hide hqd
      clear hqd
      go_wp2_with fail
      refine (uint_head _ hV0 (top9 hV1)).mono ?_
      rintro e w1 ⟨g1, n1, c1, rfl, hn1, hO1, hc1, hb1⟩
      have hown1 := owns_below hown hb1
      have hB1 := hnx.trans (hb1.mono hsz)
      have hsz1 := hB1.size
      have hul := uBytes_le V
      rw [← hn1] at hul
      have HN1 := hide hn1
      have HC1 := hide hc1
      clear hown hnx hn1 hc1 hO1 hb1
      go_wp2_with (at_builtin; refine wpList_append_own _ rfl _ _ 23 rfl w.heap.size 5 i0 (.int .u8 0) 1 1 Tryd.underlying23 hi hz0 hz1 hz2 rfl (by decide) _ _ _ rfl hown1 ⟨g1, 0, none⟩ n1 c1 ((uBytes V).map (Value.int .u8)) rfl (by rw [HN1.out]; simp) (unhide HC1) (u8_one _) (by unfold maxLen; omega) (by omega) hsz1 ?_; intro v2 w2 hown2 hgrow2 _)
      have hB2 := hB1.grown hgrow2 hsz1 (fun j hj => (hown1.lt j hj).1)
      have hsz2 := hB2.size
      clear hown1 hB1 hgrow2
      have hq2 := ((unhide HB).below hB2).firstG (show q ≤ 200 by omega)
      refine (bytes_head hq2 (by rw [List.length_take]; have := HL.out; omega)).mono ?_
      rintro e w3 ⟨g3, n3, c3, rfl, hn3, hO3, hc3, hb3⟩
      have hown3 := owns_below hown2 hb3
      have hB3 := hB2.trans (hb3.mono hsz2)
      have hsz3 := hB3.size
      have hbl := bB_len (ys.take q)
      have hql : (ys.take q).length = q := by rw [List.length_take]; have := HL.out; omega
      rw [← hn3, hql] at hbl
      have HN3 := hide hn3
      have HC3 := hide hc3
      clear hown2 hn3 hc3 hO3 hb3 hB2 hql hq2
      go_wp2_with (at_builtin; refine wpList_append_own _ rfl _ _ 23 rfl w.heap.size 5 i0 (.int .u8 0) 1 1 Tryd.underlying23 hi hz0 hz1 hz2 rfl (by decide) _ _ _ rfl hown3 ⟨g3, 0, none⟩ n3 c3 ((bB (ys.take q)).map (Value.int .u8)) rfl (by rw [HN3.out]; simp) (unhide HC3) (u8_one _) (by unfold maxLen; omega) (by omega) hsz3 ?_; intro v4 w4 hown4 hgrow4 _)
      have hB4 := hB3.grown hgrow4 hsz3 (fun j hj => (hown3.lt j hj).1)
      clear hown3 hB3 hgrow4
      have e1 : enc S ys (k + 1) = enc S ys k ++ (uBytes V ++ bB (ys.take q)) := by rw [enc, ← HV.out, yk, ← HL.out, ← HQ.out]
      have hown5 : w4.ownsRow w.heap.size 5 1 v4 (enc S ys (k + 1)).length ((enc S ys (k + 1)).map (Value.int .u8)) := by
        rw [e1, List.map_append, List.map_append, List.length_append, List.length_append, ← HLE.out, ← HN1.out, ← HN3.out, ← Nat.add_assoc, ← List.append_assoc]
        exact hown4
      clear hown4 e1
      go_roundw
      case rel => exact ⟨k + 1, by omega, by go_num, hown5, hB4⟩
      case measure => simp [intOf]; omega
    · have HK : Hid (k = 3000) := by show _ = _; omega
      have hdk : decide ((k : Int) < 3000) = false := by simp; omega
      have hLp : 0 < L := by
        obtain ⟨rest, hr⟩ := enc_split S ys (show 0 < k by omega)
        have h := uBytes_pos (mulU S 0)
        rw [HLE.out, hr]
        simp only [List.length_append]
        omega
      have hby : ∀ x ∈ enc S ys k, 0 ≤ x ∧ x ≤ 255 := enc_bytes (unhide HB).mem HYL.out _
      have hI : IsB wr u7 (enc S ys k) := by
        refine isB_owns (base := w.heap.size) (n := L) ?_ hby
        exact hown
      obtain ⟨g, cp, rfl, hcp1, hcp2, -, -⟩ := owns_shape hown hLp
      have HI := hide hI
      have hBW := hnx
      clear hown hI hby hnx
      go_wp2_with fail
      go_loopw [9, 10] (fun p i wq => ∃ j A : Nat, j ≤ 3000 ∧ A ≤ L ∧ i = .int .i64 (j : Int) ∧ p = .int .i64 (A : Int) ∧ Hid (A = (enc S ys j).length) ∧ Below wr.heap.size wr wq) (fun _ i _ => 3000 - (intOf i).toNat)
      case atStart => exact ⟨0, 0, by omega, by omega, rfl, rfl, rfl, Below.refl _ _⟩
      case round =>
        obtain ⟨j, A, hk, hAL, rfl, rfl, HA, hnx⟩ := hrel
        have hsz2 := hnx.size
        by_cases hlt2 : j < 3000
        · obtain ⟨V, hV⟩ : ∃ V, V = mulU S j := ⟨_, rfl⟩
          have hmul : IntKind.u64.wrap (S * (j : Int)) = V := hV.symm
          have hVb := mulU_bd S j
          rw [← hV] at hVb
          obtain ⟨hV0, hV1⟩ := hVb
          obtain ⟨q, hqd⟩ : ∃ q, q = j % (200 + 1) := ⟨_, rfl⟩
          have hq : (j : Int) % (201) = (q : Int) := by rw [hqd]; omega
          have hqm : q < 200 + 1 := by rw [hqd]; exact Nat.mod_lt _ (by omega)
          have hyk : yk ys j = ys.take q := by rw [yk, ← HL.out, ← hqd]
          clear hqd
          obtain ⟨rest, hr⟩ := enc_split S ys (show j < k by have := HK.out; omega)
          rw [← hV, hyk] at hr
          obtain ⟨P, hP⟩ : ∃ P, P = A + (uBytes V).length := ⟨_, rfl⟩
          obtain ⟨A', hA'⟩ : ∃ A', A' = P + (bB (ys.take q)).length := ⟨_, rfl⟩
          have hru : rdU (enc S ys k) (A : Int) = (V, (P : Int), 0) := by
            rw [hr, HA.out, rdU_back hV0 (top9 hV1), hP, HA.out, Int.natCast_add]
          have hylen : (ys.take q).length ≤ 200 := by rw [List.length_take]; have := HYL.out; omega
          have hrb : rdB (enc S ys k) (P : Int) 200 = (ys.take q, (A' : Int), 0) := by
            have e : enc S ys k = (enc S ys j ++ uBytes V) ++ (bB (ys.take q) ++ rest) := by rw [hr, List.append_assoc]
            have eP : (P : Int) = ((enc S ys j ++ uBytes V).length : Int) := by rw [hP, HA.out, List.length_append]
            rw [e, eP, rdB_back (by omega) (by omega), hA', ← Int.natCast_add, List.length_append, hP, HA.out]
          have hnext : A' = (enc S ys (j + 1)).length := by
            rw [enc, ← hV, hyk, List.length_append, List.length_append, hA', hP, HA.out, Nat.add_assoc]
          have hA'L : A' ≤ L := by
            have := congrArg List.length hr
            rw [← HLE.out, List.length_append, List.length_append, List.length_append, ← HA.out] at this
            omega
          have HRU := hide hru
          have HRB := hide hrb
          have HNX := hide hnext
          have HYQ := hide hylen
          clear hV hyk hr hP hA' hru hrb hnext hylen
          go_wp2_with fail
          refine (ruint_e ((unhide HI).below hnx) (unhide HRU)).mono ?_
          rintro e w5 ⟨rfl, hw5⟩
          obtain rfl := hw5.symm
          clear hw5
          go_wp2_with (go_at_call 15; refine (num_calls _ _).mono ?_; rintro e w' ⟨rfl, hw'⟩; obtain rfl := hw'.symm)
          refine (rbytes_e ((unhide HI).below hnx) (by rw [← HLE.out]; omega) (by omega) (unhide HRB)).mono ?_
          rintro e w6 ⟨a6, n6, c6, rfl, hown6, hb6⟩
          have hx6 : IsB w6 (.slice a6 n6 c6) (ys.take q) := isB_owns hown6 (fun x hx => (unhide HB).mem x (List.mem_of_mem_take hx))
          have hB6 := hnx.trans (hb6.mono hsz2)
          have hq6 := ((unhide HB).below (hBW.trans (hB6.mono hBW.size))).firstG (show q ≤ 200 by omega)
          have HX6 := hide hx6
          have HQ6 := hide hq6
          clear hown6 hb6 hnx hx6 hq6
          go_wp2_with (go_at_call 15; refine (num_calls _ _).mono ?_; rintro e w' ⟨rfl, hw'⟩; obtain rfl := hw'.symm)
          refine (same_yes (unhide HX6) (unhide HQ6)).mono ?_
          rintro e w7 ⟨rfl, hw7⟩
          obtain rfl := hw7.symm
          clear hw7
          go_wp2
          go_roundw
          case rel => exact ⟨j + 1, A', by omega, hA'L, by go_num, rfl, HNX, hB6⟩
          case measure => simp [intOf]; omega
        · obtain rfl : A = L := by rw [HA.out, HLE.out, show j = k by have := HK.out; omega]
          have hB := hBW.trans (hnx.mono hBW.size)
          go_wp2_with fail
          refine (started_calls _ ((unhide HT).below hB)).mono ?_
          rintro e w5 ⟨rfl, hb5⟩
          go_wp2
          go_ret
          exact ⟨rfl, hB.trans (hb5.mono hB.size)⟩

set_option maxRecDepth 100000 in
set_option maxHeartbeats 1000000 in
theorem many_c2 {S : Int} {n : Int} {w : World} {a : Option Addr} {m cap : Nat} {xs ys : List Int} (hn : 3000 < n) (_hn2 : n ≤ 9223372036854775807) (hb : IsB w (.slice a m cap) xs) (hy : ys = xs.take m) (hm : m ≤ 200) (hmc : m ≤ cap) (_hcm : cap ≤ 9223372036854775807) (ht : Tab w) :
    Calls Tryd.prog 4 #[.int .i64 n, .int .u64 S, .slice a m cap] w fun e w' => e = .returned (.bool true) ∧ Below w.heap.size w w' := by
  have HT := hide ht
  obtain ⟨i0, hi, hz0, hz1, hz2⟩ := info_parts info8
  have hbf : IsB w (.slice a m cap) ys := by rw [hy]; exact hb.firstG (Nat.le_refl _)
  have HL := hide hbf.lenEq
  have HB := hide hbf
  have hyl : ys.length ≤ 200 := by rw [← HL.out]; omega
  have HYL := hide hyl
  clear ht hb hbf hy hyl
  have hdm : decide ((200 : Int) < (m : Int)) = false := by simp; omega
  go_enter Tryd.func4, Tryd.ntmps4
  go_wp2_with fail
  go_loopw [7, 8] (fun v i wr => ∃ k : Nat, k ≤ 3000 ∧ i = .int .i64 (k : Int) ∧ wr.ownsRow w.heap.size 5 1 v (enc S ys k).length ((enc S ys k).map (Value.int .u8)) ∧ Below w.heap.size w wr) (fun _ i _ => 3000 - (intOf i).toNat)
  case atStart => exact ⟨0, by omega, rfl, World.ownsRow_nil _ _ _ _, Below.refl _ _⟩
  case round =>
    obtain ⟨k, hk, rfl, hown, hnx⟩ := hrel
    have hsz := hnx.size
    have hel := enc_len (S := S) HYL.out k
    obtain ⟨L, hL⟩ : ∃ L, L = (enc S ys k).length := ⟨_, rfl⟩
    rw [← hL] at hown hel
    have HLE := hide hL
    clear hL
    by_cases hlt : k < 3000
    · obtain ⟨V, hV⟩ : ∃ V, V = mulU S k := ⟨_, rfl⟩
      have hmul : IntKind.u64.wrap (S * (k : Int)) = V := hV.symm
      have hVb := mulU_bd S k
      rw [← hV] at hVb
      obtain ⟨hV0, hV1⟩ := hVb
      have HV := hide hV
      clear hV
      obtain ⟨q, hqd⟩ : ∃ q, q = k % (m + 1) := ⟨_, rfl⟩
      have hq : (k : Int) % ((m : Int) + 1) = (q : Int) := by rw [hqd]; exact mod_succ k m
      have hqm : q < m + 1 := by rw [hqd]; exact Nat.mod_lt _ (by omega)
      have HQ := hide hqd
      clear hqd
      go_wp2_with fail
      refine (uint_head _ hV0 (top9 hV1)).mono ?_
      rintro e w1 ⟨g1, n1, c1, rfl, hn1, hO1, hc1, hb1⟩
      have hown1 := owns_below hown hb1
      have hB1 := hnx.trans (hb1.mono hsz)
      have hsz1 := hB1.size
      have hul := uBytes_le V
      rw [← hn1] at hul
      have HN1 := hide hn1
      have HC1 := hide hc1
      clear hown hnx hn1 hc1 hO1 hb1
      go_wp2_with (at_builtin; refine wpList_append_own _ rfl _ _ 23 rfl w.heap.size 5 i0 (.int .u8 0) 1 1 Tryd.underlying23 hi hz0 hz1 hz2 rfl (by decide) _ _ _ rfl hown1 ⟨g1, 0, none⟩ n1 c1 ((uBytes V).map (Value.int .u8)) rfl (by rw [HN1.out]; simp) (unhide HC1) (u8_one _) (by unfold maxLen; omega) (by omega) hsz1 ?_; intro v2 w2 hown2 hgrow2 _)
      have hB2 := hB1.grown hgrow2 hsz1 (fun j hj => (hown1.lt j hj).1)
      have hsz2 := hB2.size
      clear hown1 hB1 hgrow2
      have hq2 := ((unhide HB).below hB2).firstG (show q ≤ m by omega)
      refine (bytes_head hq2 (by rw [List.length_take]; have := HL.out; omega)).mono ?_
      rintro e w3 ⟨g3, n3, c3, rfl, hn3, hO3, hc3, hb3⟩
      have hown3 := owns_below hown2 hb3
      have hB3 := hB2.trans (hb3.mono hsz2)
      have hsz3 := hB3.size
      have hbl := bB_len (ys.take q)
      have hql : (ys.take q).length = q := by rw [List.length_take]; have := HL.out; omega
      rw [← hn3, hql] at hbl
      have HN3 := hide hn3
      have HC3 := hide hc3
      clear hown2 hn3 hc3 hO3 hb3 hB2 hql hq2
      go_wp2_with (at_builtin; refine wpList_append_own _ rfl _ _ 23 rfl w.heap.size 5 i0 (.int .u8 0) 1 1 Tryd.underlying23 hi hz0 hz1 hz2 rfl (by decide) _ _ _ rfl hown3 ⟨g3, 0, none⟩ n3 c3 ((bB (ys.take q)).map (Value.int .u8)) rfl (by rw [HN3.out]; simp) (unhide HC3) (u8_one _) (by unfold maxLen; omega) (by omega) hsz3 ?_; intro v4 w4 hown4 hgrow4 _)
      have hB4 := hB3.grown hgrow4 hsz3 (fun j hj => (hown3.lt j hj).1)
      clear hown3 hB3 hgrow4
      have e1 : enc S ys (k + 1) = enc S ys k ++ (uBytes V ++ bB (ys.take q)) := by rw [enc, ← HV.out, yk, ← HL.out, ← HQ.out]
      have hown5 : w4.ownsRow w.heap.size 5 1 v4 (enc S ys (k + 1)).length ((enc S ys (k + 1)).map (Value.int .u8)) := by
        rw [e1, List.map_append, List.map_append, List.length_append, List.length_append, ← HLE.out, ← HN1.out, ← HN3.out, ← Nat.add_assoc, ← List.append_assoc]
        exact hown4
      clear hown4 e1
      go_roundw
      case rel => exact ⟨k + 1, by omega, by go_num, hown5, hB4⟩
      case measure => simp [intOf]; omega
    · have HK : Hid (k = 3000) := by show _ = _; omega
      have hdk : decide ((k : Int) < 3000) = false := by simp; omega
      have hLp : 0 < L := by
        obtain ⟨rest, hr⟩ := enc_split S ys (show 0 < k by omega)
        have h := uBytes_pos (mulU S 0)
        rw [HLE.out, hr]
        simp only [List.length_append]
        omega
      have hby : ∀ x ∈ enc S ys k, 0 ≤ x ∧ x ≤ 255 := enc_bytes (unhide HB).mem HYL.out _
      have hI : IsB wr u7 (enc S ys k) := by
        refine isB_owns (base := w.heap.size) (n := L) ?_ hby
        exact hown
      obtain ⟨g, cp, rfl, hcp1, hcp2, -, -⟩ := owns_shape hown hLp
      have HI := hide hI
      have hBW := hnx
      clear hown hI hby hnx
      go_wp2_with fail
      go_loopw [9, 10] (fun p i wq => ∃ j A : Nat, j ≤ 3000 ∧ A ≤ L ∧ i = .int .i64 (j : Int) ∧ p = .int .i64 (A : Int) ∧ Hid (A = (enc S ys j).length) ∧ Below wr.heap.size wr wq) (fun _ i _ => 3000 - (intOf i).toNat)
      case atStart => exact ⟨0, 0, by omega, by omega, rfl, rfl, rfl, Below.refl _ _⟩
      case round =>
        obtain ⟨j, A, hk, hAL, rfl, rfl, HA, hnx⟩ := hrel
        have hsz2 := hnx.size
        by_cases hlt2 : j < 3000
        · obtain ⟨V, hV⟩ : ∃ V, V = mulU S j := ⟨_, rfl⟩
          have hmul : IntKind.u64.wrap (S * (j : Int)) = V := hV.symm
          have hVb := mulU_bd S j
          rw [← hV] at hVb
          obtain ⟨hV0, hV1⟩ := hVb
          obtain ⟨q, hqd⟩ : ∃ q, q = j % (m + 1) := ⟨_, rfl⟩
          have hq : (j : Int) % ((m : Int) + 1) = (q : Int) := by rw [hqd]; exact mod_succ j m
          have hqm : q < m + 1 := by rw [hqd]; exact Nat.mod_lt _ (by omega)
          have hyk : yk ys j = ys.take q := by rw [yk, ← HL.out, ← hqd]
          clear hqd
          obtain ⟨rest, hr⟩ := enc_split S ys (show j < k by have := HK.out; omega)
          rw [← hV, hyk] at hr
          obtain ⟨P, hP⟩ : ∃ P, P = A + (uBytes V).length := ⟨_, rfl⟩
          obtain ⟨A', hA'⟩ : ∃ A', A' = P + (bB (ys.take q)).length := ⟨_, rfl⟩
          have hru : rdU (enc S ys k) (A : Int) = (V, (P : Int), 0) := by
            rw [hr, HA.out, rdU_back hV0 (top9 hV1), hP, HA.out, Int.natCast_add]
          have hylen : (ys.take q).length ≤ 200 := by rw [List.length_take]; have := HYL.out; omega
          have hrb : rdB (enc S ys k) (P : Int) 200 = (ys.take q, (A' : Int), 0) := by
            have e : enc S ys k = (enc S ys j ++ uBytes V) ++ (bB (ys.take q) ++ rest) := by rw [hr, List.append_assoc]
            have eP : (P : Int) = ((enc S ys j ++ uBytes V).length : Int) := by rw [hP, HA.out, List.length_append]
            rw [e, eP, rdB_back (by omega) (by omega), hA', ← Int.natCast_add, List.length_append, hP, HA.out]
          have hnext : A' = (enc S ys (j + 1)).length := by
            rw [enc, ← hV, hyk, List.length_append, List.length_append, hA', hP, HA.out, Nat.add_assoc]
          have hA'L : A' ≤ L := by
            have := congrArg List.length hr
            rw [← HLE.out, List.length_append, List.length_append, List.length_append, ← HA.out] at this
            omega
          have HRU := hide hru
          have HRB := hide hrb
          have HNX := hide hnext
          have HYQ := hide hylen
          clear hV hyk hr hP hA' hru hrb hnext hylen
          go_wp2_with fail
          refine (ruint_e ((unhide HI).below hnx) (unhide HRU)).mono ?_
          rintro e w5 ⟨rfl, hw5⟩
          obtain rfl := hw5.symm
          clear hw5
          go_wp2_with (go_at_call 15; refine (num_calls _ _).mono ?_; rintro e w' ⟨rfl, hw'⟩; obtain rfl := hw'.symm)
          refine (rbytes_e ((unhide HI).below hnx) (by rw [← HLE.out]; omega) (by omega) (unhide HRB)).mono ?_
          rintro e w6 ⟨a6, n6, c6, rfl, hown6, hb6⟩
          have hx6 : IsB w6 (.slice a6 n6 c6) (ys.take q) := isB_owns hown6 (fun x hx => (unhide HB).mem x (List.mem_of_mem_take hx))
          have hB6 := hnx.trans (hb6.mono hsz2)
          have hq6 := ((unhide HB).below (hBW.trans (hB6.mono hBW.size))).firstG (show q ≤ m by omega)
          have HX6 := hide hx6
          have HQ6 := hide hq6
          clear hown6 hb6 hnx hx6 hq6
          go_wp2_with (go_at_call 15; refine (num_calls _ _).mono ?_; rintro e w' ⟨rfl, hw'⟩; obtain rfl := hw'.symm)
          refine (same_yes (unhide HX6) (unhide HQ6)).mono ?_
          rintro e w7 ⟨rfl, hw7⟩
          obtain rfl := hw7.symm
          clear hw7
          go_wp2
          go_roundw
          case rel => exact ⟨j + 1, A', by omega, hA'L, by go_num, rfl, HNX, hB6⟩
          case measure => simp [intOf]; omega
        · obtain rfl : A = L := by rw [HA.out, HLE.out, show j = k by have := HK.out; omega]
          have hB := hBW.trans (hnx.mono hBW.size)
          go_wp2_with fail
          refine (started_calls _ ((unhide HT).below hB)).mono ?_
          rintro e w5 ⟨rfl, hb5⟩
          go_wp2
          go_ret
          exact ⟨rfl, hB.trans (hb5.mono hB.size)⟩

/-- WireMany, for every input. -/
theorem many_walk (n S : Int) {w : World} {vb : Value} {xs : List Int} (hn : -9223372036854775808 ≤ n ∧ n ≤ 9223372036854775807) (hb : IsB w vb xs) (ht : Tab w) :
    Calls Tryd.prog 4 #[.int .i64 n, .int .u64 S, vb] w fun e w' => e = .returned (.bool true) ∧ Below w.heap.size w w' := by
  obtain ⟨a, m, cap, rfl⟩ := hb.shape
  have hmc : m ≤ cap ∧ cap ≤ 9223372036854775807 := by
    obtain ⟨_, a', c', hv, hl', hm', _, _⟩ := hb
    injection hv with e1 e2 e3
    omega
  by_cases h1 : n < 1
  · by_cases hm : 200 < m
    · exact many_a1 h1 hn.1 hb rfl hm hmc.1 hmc.2 ht
    · exact many_a2 h1 hn.1 hb rfl (by omega) hmc.1 hmc.2 ht
  · by_cases h2 : 3000 < n
    · by_cases hm : 200 < m
      · exact many_c1 h2 hn.2 hb rfl hm hmc.1 hmc.2 ht
      · exact many_c2 h2 hn.2 hb rfl (by omega) hmc.1 hmc.2 ht
    · obtain ⟨N, rfl⟩ := Int.eq_ofNat_of_zero_le (show 0 ≤ n by omega)
      by_cases hm : 200 < m
      · exact many_b1 (by omega) (by omega) hb rfl hm hmc.1 hmc.2 ht
      · exact many_b2 (by omega) (by omega) hb rfl (by omega) hmc.1 hmc.2 ht
end Go.Proofs.YtmfdiicnhfadmacDoor
