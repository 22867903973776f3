/- What JournalBit answers. -/
import Derived.Test.YthhjlopgpmaokabDoorJrSt
namespace Go.Proofs.YthhjlopgpmaokabDoor
open Go.RowKit Go.Maps

/-- A bit is turned over. -/
theorem sn_turn {w0 W : World} {p i bit : Nat} {D : AD} (h : Sn w0 W p D) (hi : i < D.la.length) (hb : bit < 4096) (hwl : (D.wr i).length ≤ 68719476736) :
    Calls Tryd.prog 15 #[.pointer (some ⟨p, 0, none⟩), .int .i64 (i : Int), .int .i64 (bit : Int)] W fun e w' => e = .returned (.int .i64 0) ∧ Sn w0 w' p (D.turn i bit) ∧ Cj TDk W w' := by
  obtain ⟨gl, gm, V, h1, h2, h3⟩ := h
  refine (turn_good h1 hi hb hwl).mono ?_
  rintro e w' ⟨rfl, q1, q2⟩
  exact ⟨rfl, ⟨gl, gm, V, q1, h2, h3.trans (q2.below h3.size h2)⟩, Cj.of_up h1 q2 (fun _ h => h)⟩
theorem place17_enter (v u : Value) (W : World) : (callFunc 8 #[v, u]).run Tryd.prog W = .ok (.enter 8 #[v, u]) W := by kernel_rfl
theorem turn_enterB (v u z : Value) (W : World) : (callFunc 15 #[v, u, z]).run Tryd.prog W = .ok (.enter 15 #[v, u, z]) W := by kernel_rfl
theorem place17_calls {x : Int} {n : Nat} (h0 : 0 < n) (hn : n ≤ 100000) (W : World) : Calls Tryd.prog 8 #[.int .i64 x, .int .i64 (n : Int)] W fun e w' => ∃ k : Nat, e = .returned (.int .i64 (k : Int)) ∧ k < n ∧ W = w' := (jplace17_calls h0 hn W).mono fun _ _ ⟨k, a, b, c⟩ => ⟨k, a, b, c.symm⟩
def KV (i : Nat) : List Value := (madeK i).map (Value.int .u8)
theorem KV_all (i : Nat) : (Tryd.prog.info? 33).map (·.size) = some (KV i).length ∧ z32J.length = (KV i).length ∧ ∀ u ∈ KV i, u.oneCell' = true := ⟨infoKof (madeK_len i), by unfold KV; rw [List.length_map, madeK_len]; decide, u8_one _⟩
/-- The records that the laws add. -/
def madeR (first : Nat) (num : Nat) : JR := ⟨(num : Int), madeK (num - first), madeRs (num - first)⟩
theorem madeR_fine {first num : Nat} (h1 : num - first ≤ 65535) (h2 : num ≤ 1099511627776) : (madeR first num).Ok ∧ encE (madeR first num) = 0 ∧ (madeR first num).n = (num : Int) := ⟨madeR_ok h1 ⟨by omega, by omega⟩, madeR_enc _ (by omega) (by omega), rfl⟩
theorem js_open {w0 w : World} {p fr n st : Nat} {D : AD} (h : Sn w0 w p D) (ht : Tab w0) (hr0 : 0 ≤ D.rd) (hr1 : D.rd ≤ 1000000000000000) (hn1 : 1 ≤ n) (hn : n ≤ 1024) (hfr : fr + n ≤ D.la.length) (hst : st ≤ 1099511627777) :
    Calls Tryd.prog 11 #[.pointer (some ⟨p, 0, none⟩), .int .i64 (fr : Int), .int .i64 (n : Int), .int .i64 (st : Int)] w fun e w' => ∃ pj v m V, e = .returned (.tuple #[.pointer (some ⟨pj, 0, none⟩), v, .int .i64 0]) ∧ m ≤ n ∧ Js w0 w' p pj fr n st (st + (repL D.now fr n n st).length) (D.rds m) ∧ Cj TDk w w' ∧ OwnL w' w.heap.size v (repL D.now fr n n st) V := by
  refine (open_calls h ht hr0 hr1 hn1 hn hfr hst).mono ?_
  rintro e w' ⟨pj, v, rfl, ⟨⟨m, hm, hs⟩, hc, ⟨V, ho⟩⟩, hj, hlo⟩
  exact ⟨pj, v, m, V, rfl, hm, ⟨hs, hj, Nat.le_trans h.be.size hlo⟩, hc, ho⟩
theorem js_replay {w0 w : World} {p fr n st : Nat} {D : AD} (h : Sn w0 w p D) (ht : Tab w0) (hr0 : 0 ≤ D.rd) (hr1 : D.rd ≤ 1000000000000000) (hn1 : 1 ≤ n) (hn : n ≤ 1024) (hfr : fr + n ≤ D.la.length) (hst : st ≤ 1099511627777) :
    Calls Tryd.prog 16 #[.pointer (some ⟨p, 0, none⟩), .int .i64 (fr : Int), .int .i64 (n : Int), .int .i64 (st : Int)] w fun e w' => ∃ v m V, e = .returned (.tuple #[v, .int .i64 0]) ∧ m ≤ n ∧ Sn w0 w' p (D.rds m) ∧ Cj TDk w w' ∧ OwnL w' w.heap.size v (repL D.now fr n n st) V := by
  refine (replay_calls h ht hr0 hr1 hn1 hn hfr hst).mono ?_
  rintro e w' ⟨v, rfl, ⟨⟨m, hm, hs⟩, hc, ⟨V, ho⟩⟩⟩
  exact ⟨v, m, V, rfl, hm, hs, hc, ho⟩
section
variable {w : World} {p pj fr n st nx i : Nat} {D : AD}
theorem js_add (hn : n ≤ 1024) (hs : st ≤ nx) (hx : nx ≤ 1099511627776) (hroom : nx - st < n) {W : World} {u : Value} (h : Js w W p pj fr n st nx D) (hu : IsJ W u (madeRs i)) :
    Calls Tryd.prog 13 #[.pointer (some ⟨pj, 0, none⟩), .agg (KV i).toArray, u] W fun e w' => ∃ pw v, e = .returned (.tuple #[.pointer (some ⟨pw, 0, none⟩), .int .i64 0]) ∧ Wj w w' p pj fr n st nx D pw 0 0 0 (madeK i) v ∧ OwnJ w' W.heap.size v (madeRs i) ∧ W.heap.size ≤ pw ∧ Below W.heap.size W w' := by
  refine (add_good h.jn hn hs (by omega) (by unfold roomE; rw [if_neg (by omega), if_neg (by omega)]) (madeRs_may i) hu (madeK_len i)).mono ?_
  rintro e w' ⟨pw, v, rfl, h1, h2, h3, h4⟩
  exact ⟨pw, v, rfl, ⟨h.sn.below h3, h.jn.below h3, h1⟩, h2, h4, h3⟩
theorem js_step1 (ht : Tab w) (hlo : w.heap.size ≤ pj) (hn1 : 1 ≤ n) (hn : n ≤ 1024) (hfr : fr + n ≤ D.la.length) (hs : st ≤ nx) (hx : nx ≤ 1099511627776) (hroom : nx - st < n) (hi : i ≤ 65535) {q : Nat} (hL : Lit D q) (hq : q ≤ 1000000000) {W : World} {pw B : Nat} {v : Value} {num : Int} (h : Wj w W p pj fr n st nx D pw 0 0 num (madeK i) v) (hv : OwnJ W B v (madeRs i)) (hlw : w.heap.size ≤ pw) :
    Calls Tryd.prog 14 #[.pointer (some ⟨pw, 0, none⟩)] W fun e w' => e = .returned (.tuple #[.bool false, .int .i64 0]) ∧ Wj w w' p pj fr n st (nx + 1) (D.write (fr + nx % n) (encL ⟨(nx : Int), madeK i, madeRs i⟩)) pw 1 0 (nx : Int) (madeK i) v ∧ Cq pw W w' := by
  have h2 := hL.wt
  refine (step_write h hlo hlw ht hn1 hn hfr hs (by omega) (by unfold roomE; rw [if_neg (by omega), if_neg (by omega)]) (madeR_ok hi ⟨by omega, by omega⟩) (madeR_enc _ (by omega) (by omega)) hv h2.1 (by omega) (fun j => by rw [hL.wr j]; decide)).mono ?_
  rintro e w' ⟨rfl, h1, _, h3⟩
  exact ⟨rfl, h1, h3⟩
theorem js_step2 {q : Nat} (hL : Lit D q) (hq : q ≤ 1000000000) (hlo : w.heap.size ≤ pj) {b : List Int} {j : Nat} {W : World} {pw : Nat} {v : Value} {num : Int} (h : Wj w W p pj fr n st nx (D.write j b) pw 1 0 num (madeK i) v) (hlw : w.heap.size ≤ pw) :
    Calls Tryd.prog 14 #[.pointer (some ⟨pw, 0, none⟩)] W fun e w' => e = .returned (.tuple #[.bool true, .int .i64 0]) ∧ Js w w' p pj fr n st nx (D.write j b).flush ∧ Cq pw W w' := by
  have h2 := hL.fl
  refine (step_flush h hlw (madeK_len i) (fun k => by have := hL.one (i := j) (b := b) k; omega) (by show 0 ≤ D.fl; omega) (by show D.fl ≤ _; omega)).mono ?_
  rintro e w' ⟨rfl, h1, h3⟩
  exact ⟨rfl, ⟨h1.sn, h1.jn, hlo⟩, h3⟩
end
theorem bit_turn {w W : World} {p n first count at' fa sc f1 m1 bit : Nat} (hx : ∃ D, Sn w W p D ∧ Std D 2 n first (first + count) (madeR first) ∧ Lit D (20 + count) ∧ D.la.length = 24) (hb : bit < 4096) (hsc : sc = 2 + fa % n) (hfa : fa = first + at') (hf1 : f1 = fa + 1) (hm1 : m1 = count - (at' + 1)) (hn1 : 1 ≤ n) (hn13 : n ≤ 13) (hcn : count ≤ n) (hat : at' < count) :
    Calls Tryd.prog 15 #[.pointer (some ⟨p, 0, none⟩), .int .i64 (sc : Int), .int .i64 (bit : Int)] W fun e w' => e = .returned (.int .i64 0) ∧ ∃ D', Sn w w' p D' ∧ D'.la.length = 24 ∧ (0 ≤ D'.rd ∧ D'.rd ≤ 100) ∧ (repL D'.now 2 n n first).length = at' ∧ (repL D'.now 2 n n f1).length = m1 := by
  obtain ⟨D, h1, h2, h3, h4⟩ := hx
  have hm := Nat.mod_lt fa hn1
  subst hsc
  generalize hq : fa % n = q at *
  refine (sn_turn h1 (i := 2 + q) (by omega) hb (by rw [h3.wr]; decide)).mono ?_
  rintro e w' ⟨rfl, q1, _⟩
  have h5 := h3.rd
  have h6 := h2.bit h1.ok (a := fa) (bit := bit) (by omega) (by omega) hb
  rw [hq] at h6
  obtain ⟨r1, r2⟩ := h6
  refine ⟨rfl, _, q1, (List.length_set).trans h4, ⟨h5.1, by show D.rd ≤ _; omega⟩, ?_, ?_⟩
  · rw [r1, recsL_len]; omega
  · rw [hf1, r2, recsL_len]; omega
set_option maxRecDepth 100000 in
set_option maxHeartbeats 4000000 in
theorem journalBit_walk {w : World} (x0 x1 x2 x3 x4 : Int) (ht : Tab w) : Calls Tryd.prog 3 #[.int .i64 x0, .int .i64 x1, .int .i64 x2, .int .i64 x3, .int .i64 x4] w fun e w' => e = .returned (.bool true) ∧ Below w.heap.size w w' := by
  have HTB := hide ht
  have HKV := hide KV_all
  have HP13 : Hid (∀ W, Calls Tryd.prog 8 #[.int .i64 x0, .int .i64 13] W fun e w' => ∃ k : Nat, e = .returned (.int .i64 (k : Int)) ∧ k < 13 ∧ W = w') := hide (fun W => place17_calls (n := 13) (by decide) (by decide) W)
  have HP1000 : Hid (∀ W, Calls Tryd.prog 8 #[.int .i64 x1, .int .i64 1000] W fun e w' => ∃ k : Nat, e = .returned (.int .i64 (k : Int)) ∧ k < 1000 ∧ W = w') := hide (fun W => place17_calls (n := 1000) (by decide) (by decide) W)
  have HPN : Hid (∀ W x m, 0 < m → m ≤ 100000 → Calls Tryd.prog 8 #[.int .i64 x, .int .i64 ((m : Nat) : Int)] W fun e w' => ∃ k : Nat, e = .returned (.int .i64 (k : Int)) ∧ k < m ∧ W = w') := hide (fun W x m h1 h2 => place17_calls h1 h2 W)
  have HPB : Hid (∀ W, Calls Tryd.prog 8 #[.int .i64 x4, .int .i64 4096] W fun e w' => ∃ k : Nat, e = .returned (.int .i64 (k : Int)) ∧ k < 4096 ∧ W = w') := hide (fun W => place17_calls (n := 4096) (by decide) (by decide) W)
  have HNW : Hid (∀ W, Below w.heap.size w W → Calls Tryd.prog 9 #[.int .i64 24] W fun e w' => ∃ p, e = .returned (.tuple #[.pointer (some ⟨p, 0, none⟩), .int .i64 0]) ∧ Sn w w' p (zeroD 24) ∧ Below W.heap.size W w') := hide (fun W hW => sn_new (n := 24) hW (by decide) (by decide))
  have HTO : Hid (∀ W, Below w.heap.size w W → Calls Tryd.prog 10 #[] W fun e w' => e = .returned (.bool true) ∧ Below W.heap.size W w') := hide (fun W hW => jtold_calls (HTB.out.below hW))
  clear ht
  go_enter Tryd.func3, Tryd.ntmps3
  go_wp2_with fail
  refine (unhide HP13 _).mono ?_
  rintro e wx ⟨k0, rfl, hk0, rfl⟩
  obtain ⟨n, hn⟩ : ∃ n : Nat, n = 1 + k0 := ⟨_, rfl⟩
  have hnI : 1 + (k0 : Int) = (n : Int) := by omega
  have hnw : IntKind.i64.wrap (n : Int) = (n : Int) := IntWalk.i64_in _ (by omega)
  have hn1 : 1 ≤ n := by omega
  have hn13 : n ≤ 13 := by omega
  clear hn hk0
  go_wp2_with fail
  refine (unhide HP1000 _).mono ?_
  rintro e wx ⟨first, rfl, hfirst, rfl⟩
  go_wp2_with fail
  refine (unhide HPN _ _ n hn1 (by omega)).mono ?_
  rintro e wx ⟨k1, rfl, hk1, rfl⟩
  obtain ⟨count, hcn⟩ : ∃ count : Nat, count = 1 + k1 := ⟨_, rfl⟩
  have hcI : 1 + (k1 : Int) = (count : Int) := by omega
  have hcw : IntKind.i64.wrap (count : Int) = (count : Int) := IntWalk.i64_in _ (by omega)
  have hc1 : 1 ≤ count := by omega
  have hcn' : count ≤ n := by omega
  clear hcn hk1
  go_wp2_with fail
  refine (unhide HPN _ _ count hc1 (by omega)).mono ?_
  rintro e wx ⟨at', rfl, hat, rfl⟩
  go_wp2_with fail
  refine (unhide HNW _ (Below.refl _ _)).mono ?_
  rintro e w1 ⟨p, rfl, hS1, _⟩
  have HS0 := hide hS1
  clear hS1 HP13 HP1000 HNW
  go_wp2_with fail
  refine (unhide HTO _ HS0.out.be).mono ?_
  rintro e w2 ⟨rfl, hb2⟩
  have HSa := hide (HS0.out.below hb2)
  clear hb2 HS0 HTO
  have HOP : Hid (Calls Tryd.prog 11 #[.pointer (some ⟨p, 0, none⟩), .int .i64 2, .int .i64 (n : Int), .int .i64 (first : Int)] w2 fun e w' => ∃ pj v m V, e = .returned (.tuple #[.pointer (some ⟨pj, 0, none⟩), v, .int .i64 0]) ∧ m ≤ n ∧ Js w w' p pj 2 n first (first + (repL (zeroD 24).now 2 n n first).length) ((zeroD 24).rds m) ∧ Cj TDk w2 w' ∧ OwnL w' w2.heap.size v (repL (zeroD 24).now 2 n n first) V) := hide (js_open (fr := 2) HSa.out HTB.out (Int.le_refl 0) (by show (0 : Int) ≤ _; decide) hn1 (by omega) (by simp [zeroD]; omega) (by omega))
  go_wp2_with fail
  refine (unhide HOP).mono ?_
  rintro e wo ⟨pj, v, m, V, rfl, hm, hJ, _, hov⟩
  rw [zero_rep] at hJ hov
  obtain ⟨va, vc, rfl, _⟩ := hov.shape
  have HLO := hide hJ.lo
  have HI0 : Hid (∃ D, Js w wo p pj 2 n first (first + 0) D ∧ Std D 2 n first (first + 0) (madeR first) ∧ Lit D (20 + 0) ∧ D.la.length = 24) := hide ⟨_, hJ, (Std.zero hn1 (by omega)).same rfl (fun i _ => AD.rds_now _ _ _), (Lit.zero 24).rds (by omega), by simp [zeroD, AD.rds]⟩
  clear hJ hov HSa HOP hm
  go_wp2_with fail
  go_loopw [16] (fun iv W => ∃ (k : Nat), k ≤ count ∧ iv = .int .i64 (k : Int) ∧ Hid (∃ D, Js w W p pj 2 n first (first + k) D ∧ Std D 2 n first (first + k) (madeR first) ∧ Lit D (20 + k) ∧ D.la.length = 24)) (fun iv _ => count - (intOf iv).toNat)
  case atStart => exact ⟨0, by omega, rfl, HI0⟩
  case round =>
    clear HI0
    obtain ⟨k, hk, rfl, HK⟩ := hrel
    by_cases hlt : k < count
    · have hltI : (k : Int) < (count : Int) := by omega
      obtain ⟨D, hJS, hST, hL, hla⟩ := HK.out
      have HJS := hide hJS
      have HSTD := hide hST
      have HL := hide hL
      have hk6 : k ≤ 65535 := by omega
      have HMD : Hid (∀ W, True → Calls Tryd.prog 12 #[.int .i64 (k : Int)] W fun e w' => ∃ u, e = .returned (.tuple #[.agg (KV k).toArray, u]) ∧ OwnJ w' W.heap.size u (madeRs k) ∧ Below W.heap.size W w') := hide (fun W _ => made_calls hk6)
      have HADD : Hid (∀ W u, Js w W p pj 2 n first (first + k) D → IsJ W u (madeRs k) → Calls Tryd.prog 13 #[.pointer (some ⟨pj, 0, none⟩), .agg (KV k).toArray, u] W fun e w' => ∃ pw v, e = .returned (.tuple #[.pointer (some ⟨pw, 0, none⟩), .int .i64 0]) ∧ Wj w w' p pj 2 n first (first + k) D pw 0 0 0 (madeK k) v ∧ OwnJ w' W.heap.size v (madeRs k) ∧ W.heap.size ≤ pw ∧ Below W.heap.size W w') := hide (fun W u h1 h2 => js_add (by omega) (by omega) (by omega) (by omega) h1 h2)
      have hR : ⟨((first + k : Nat) : Int), madeK k, madeRs k⟩ = madeR first (first + k) := by unfold madeR; rw [Nat.add_sub_cancel_left]
      have HS1 : Hid (∀ W pw B v, Wj w W p pj 2 n first (first + k) D pw 0 0 0 (madeK k) v → OwnJ W B v (madeRs k) → w.heap.size ≤ pw → Calls Tryd.prog 14 #[.pointer (some ⟨pw, 0, none⟩)] W fun e w' => e = .returned (.tuple #[.bool false, .int .i64 0]) ∧ Wj w w' p pj 2 n first (first + k + 1) (D.write (2 + (first + k) % n) (encL (madeR first (first + k)))) pw 1 0 ((first + k : Nat) : Int) (madeK k) v) := hide (fun W pw B v h1 h2 h3 => by
        have := js_step1 HTB.out HLO.out hn1 (by omega) (by omega) (by omega) (by omega) (by omega) hk6 hL (by omega) h1 h2 h3
        rw [hR] at this
        exact this.mono fun e w' ⟨q1, q2, _⟩ => ⟨q1, q2⟩)
      have HS2 : Hid (∀ W pw v, Wj w W p pj 2 n first (first + k + 1) (D.write (2 + (first + k) % n) (encL (madeR first (first + k)))) pw 1 0 ((first + k : Nat) : Int) (madeK k) v → w.heap.size ≤ pw → Calls Tryd.prog 14 #[.pointer (some ⟨pw, 0, none⟩)] W fun e w' => e = .returned (.tuple #[.bool true, .int .i64 0]) ∧ ∃ D', Js w w' p pj 2 n first (first + (k + 1)) D' ∧ Std D' 2 n first (first + (k + 1)) (madeR first) ∧ Lit D' (20 + (k + 1)) ∧ D'.la.length = 24) := hide (fun W pw v h1 h2 => (js_step2 hL (by omega) HLO.out h1 h2).mono fun e w' ⟨q1, q2, _⟩ => by
        obtain ⟨f1, f2, f3⟩ := madeR_fine (first := first) (num := first + k) (by omega) (by omega)
        exact ⟨q1, _, q2, hST.put hL (Nat.le_refl _) (by omega) (by omega) f1 f2 f3, hL.put, (flush_len _).trans hla⟩)
      clear hJS hST hL hla hR HK
      go_wp2_with fail
      refine (unhide HMD _ trivial).mono ?_
      rintro e w3 ⟨u3, rfl, ho3, hb3⟩
      obtain ⟨ua, uc, rfl⟩ := ho3.shape
      have HO3 := hide ho3
      have HJ3 := hide (HJS.out.below hb3)
      have HA3 := hide (Arr.new w3 z32J 33)
      have HB3 := hide (jalloc_below w3 (.cells z32J.toArray 33))
      have HX3 : Hid (∀ w4, Arr w4 w3.heap.size 33 (KV k) → (w3.alloc (.cells z32J.toArray 33)).grownBy w4 (some w3.heap.size) → w4.rangeAt w3.heap.size 0 (KV k) ∧ Js w w4 p pj 2 n first (first + k) D ∧ IsJ w4 (.slice ua (madeRs k).length uc) (madeRs k)) := hide (fun w4 h1 h2 => by
        have hb := jbelow_grown HB3.out h2 HB3.out.size (Nat.le_refl _)
        exact ⟨h1.rangeJ, HJ3.out.below hb, HO3.out.isJ.below hb⟩)
      clear ho3 hb3 HO3 HJ3 HJS
      go_wp2_with (first
        | (refine wpList_allocJ rfl 33 rfl infoKf ?_)
        | (refine wpList_storeJ rfl (.tmp 17) (.tmp 72) 33 rfl rfl rfl HA3.out (HKV.out k).1 (HKV.out k).2.1 (HKV.out k).2.2 ?_; intro w4 hA4 hg4
           obtain ⟨hrk, hj4, hi4⟩ := unhide HX3 w4 hA4 hg4
           have HJ4 := hide hj4
           have HI4 := hide hi4
           clear hA4 hg4 hj4 hi4 HX3 HA3 HB3)
        | (refine wpList_loadJ rfl 33 (.tmp 17) rfl _ 0 rfl (KV k) _ hrk Tryd.underlying33 rfl (HKV.out k).1 ?_)
        | fail)
      refine (unhide HADD _ _ HJ4.out HI4.out).mono ?_
      rintro e w5 ⟨pw, v5, rfl, hW5, ho5, hlo5, hb5⟩
      have HW5 := hide (And.intro hW5 (And.intro ho5 (Nat.le_trans HJ4.out.sn.be.size hlo5)))
      clear hW5 ho5 hlo5 hb5 HJ4 HI4 hrk
      go_wp2_with fail
      refine (unhide HS1 _ _ _ _ HW5.out.1 HW5.out.2.1 HW5.out.2.2).mono ?_
      rintro e w6 ⟨rfl, hW6⟩
      have HW6 := hide hW6
      clear hW6
      go_wp2_with fail
      refine (unhide HS2 _ _ _ HW6.out HW5.out.2.2).mono ?_
      rintro e w7 ⟨rfl, hJ7⟩
      have HJ7 := hide hJ7
      clear hJ7 HW5 HW6
      go_wp2
      go_roundw
      case rel => exact ⟨k + 1, by omega, by go_num, HJ7⟩
      case measure => simp [intOf]; omega
    · have hltI : decide ((k : Int) < (count : Int)) = false := by simp; omega
      obtain ⟨D, hJS, hST, hL, hla⟩ := HK.out
      have hkc : k = count := by omega
      rw [hkc] at hST
      obtain ⟨fa, hfa⟩ : ∃ fa : Nat, fa = first + at' := ⟨_, rfl⟩
      obtain ⟨fm, hfm⟩ : ∃ fm : Nat, fm = fa % n := ⟨_, rfl⟩
      obtain ⟨sc, hsc⟩ : ∃ sc : Nat, sc = 2 + fm := ⟨_, rfl⟩
      have hmlt := Nat.mod_lt fa hn1
      have hfaI : (first : Int) + (at' : Int) = (fa : Int) := by omega
      have hfaw : IntKind.i64.wrap (fa : Int) = (fa : Int) := IntWalk.i64_in _ (by omega)
      have hn0 : ((n : Int) == 0) = false := by simp; omega
      have hn00 : ¬ n = 0 := by omega
      have hfmI : ((fa : Int)).tmod (n : Int) = (fm : Int) := by rw [Int.tmod_eq_emod_of_nonneg (by omega), hfm]; rfl
      have hfmI' : (fa : Int) % (n : Int) = (fm : Int) := by rw [hfm]; rfl
      have hscI : 2 + (fm : Int) = (sc : Int) := by omega
      have hscw : IntKind.i64.wrap (sc : Int) = (sc : Int) := IntWalk.i64_in _ (by omega)
      obtain ⟨f1, hf1⟩ : ∃ f1 : Nat, f1 = fa + 1 := ⟨_, rfl⟩
      have hf1I : (fa : Int) + 1 = (f1 : Int) := by omega
      have hf1w : IntKind.i64.wrap (f1 : Int) = (f1 : Int) := IntWalk.i64_in _ (by omega)
      have hcaI : IntKind.i64.wrap ((count : Int) - (at' : Int)) = (count : Int) - (at' : Int) := IntWalk.i64_in _ (by omega)
      have hcaI2 : IntKind.i64.wrap ((count : Int) - (at' : Int) - 1) = (count : Int) - (at' : Int) - 1 := IntWalk.i64_in _ (by omega)
      obtain ⟨m1, hm1⟩ : ∃ m1 : Nat, m1 = count - (at' + 1) := ⟨_, rfl⟩
      have hm1I : (count : Int) - (at' : Int) - 1 = (m1 : Int) := by omega
      have HTU : Hid (∀ W (bit : Nat), (∃ D, Sn w W p D ∧ Std D 2 n first (first + count) (madeR first) ∧ Lit D (20 + count) ∧ D.la.length = 24) → bit < 4096 → Calls Tryd.prog 15 #[.pointer (some ⟨p, 0, none⟩), .int .i64 (sc : Int), .int .i64 (bit : Int)] W fun e w' => e = .returned (.int .i64 0) ∧ ∃ D', Sn w w' p D' ∧ D'.la.length = 24 ∧ (0 ≤ D'.rd ∧ D'.rd ≤ 100) ∧ (repL D'.now 2 n n first).length = at' ∧ (repL D'.now 2 n n f1).length = m1) := hide (fun W bit hx hb => bit_turn hx hb (by rw [hsc, hfm]) hfa hf1 hm1 hn1 hn13 hcn' hat)
      have HRP : Hid (∀ W D', Sn w W p D' → D'.la.length = 24 → (0 ≤ D'.rd ∧ D'.rd ≤ 200) → ∀ s : Nat, s ≤ 100000 → Calls Tryd.prog 16 #[.pointer (some ⟨p, 0, none⟩), .int .i64 2, .int .i64 (n : Int), .int .i64 (s : Int)] W fun e w' => ∃ v m V, e = .returned (.tuple #[v, .int .i64 0]) ∧ m ≤ n ∧ Sn w w' p (D'.rds m) ∧ Cj TDk W w' ∧ OwnL w' W.heap.size v (repL D'.now 2 n n s) V) := hide (fun W D' h1 h2 h3 s hs => js_replay (fr := 2) h1 HTB.out h3.1 (by omega) hn1 (by omega) (by omega) (by omega))
      have HKD : Hid (∃ D, Sn w wr p D ∧ Std D 2 n first (first + count) (madeR first) ∧ Lit D (20 + count) ∧ D.la.length = 24) := hide ⟨D, hJS.sn, hST, by rw [← hkc]; exact hL, hla⟩
      have HF1 : Hid (first ≤ 100000 ∧ f1 ≤ 100000) := hide (by omega)
      have hdr : wr.drew = wr.drew := rfl
      have HK : Hid (∃ D, Sn w wr.drew p D ∧ Std D 2 n first (first + count) (madeR first) ∧ Lit D (20 + count) ∧ D.la.length = 24) := hide (by
        obtain ⟨D, h1, h2⟩ := HKD.out
        exact ⟨D, h1.below ((Below.refl _ _).drew), h2⟩)
      clear hJS hST hL hla hkc hfa hfm hsc hf1 hm1 hmlt hdr HKD
      go_wp2_with fail
      refine wp_region_held_drew (S := fun _ => True) (by kernel_rfl) (trivial) (fun hHeld => ?_)
      refine wpAnyH_take (i := 0) (v := .pointer (some ⟨p, 0, none⟩)) rfl (by kernel_rfl) (by kernel_rfl) (by kernel_rfl) (fun _ _ _ h => h) (Or.inl ⟨by rfl, fun w hSw => by go_simp⟩) (by assumption) ?_
      simp only [List.getElem_toArray, List.getElem_cons_zero, Act.put, List.setIfInBounds_toArray, List.set_cons_zero, List.set_cons_succ]
      refine wpAnyH_take (i := 1) (v := .int .i64 (first : Int)) rfl (by kernel_rfl) (by kernel_rfl) (by kernel_rfl) (fun _ _ _ h => h) (Or.inl ⟨by rfl, fun w hSw => by go_simp⟩) (by assumption) ?_
      simp only [List.getElem_toArray, List.getElem_cons_succ, List.getElem_cons_zero, Act.put, List.setIfInBounds_toArray, List.set_cons_zero, List.set_cons_succ]
      refine wpAnyH_take (i := 2) (v := .int .i64 (at' : Int)) rfl (by kernel_rfl) (by kernel_rfl) (by kernel_rfl) (fun _ _ _ h => h) (Or.inl ⟨by rfl, fun w hSw => by go_simp⟩) (by assumption) ?_
      simp only [List.getElem_toArray, List.getElem_cons_succ, List.getElem_cons_zero, Act.put, List.setIfInBounds_toArray, List.set_cons_zero, List.set_cons_succ]
      refine wpAnyH_take (i := 3) (v := .int .i64 (fa : Int)) rfl (by kernel_rfl) (by kernel_rfl) (by kernel_rfl) (fun _ _ _ h => h) (Or.inl ⟨by rfl, fun w hSw => by go_simp⟩) (by assumption) ?_
      simp only [List.getElem_toArray, List.getElem_cons_succ, List.getElem_cons_zero, Act.put, List.setIfInBounds_toArray, List.set_cons_zero, List.set_cons_succ]
      refine wpAnyH_take (i := 4) (v := .int .i64 (n : Int)) rfl (by kernel_rfl) (by kernel_rfl) (by kernel_rfl) (fun _ _ _ h => h) (Or.inl ⟨by rfl, fun w hSw => by go_simp⟩) (by assumption) ?_
      simp only [List.getElem_toArray, List.getElem_cons_succ, List.getElem_cons_zero, Act.put, List.setIfInBounds_toArray, List.set_cons_zero, List.set_cons_succ]
      refine wpAnyH_take (i := 5) (v := .int .i64 (fm : Int)) rfl (by kernel_rfl) (by kernel_rfl) (by kernel_rfl) (fun _ _ _ h => h) (Or.inl ⟨by rfl, fun w hSw => by go_simp⟩) (by assumption) ?_
      simp only [List.getElem_toArray, List.getElem_cons_succ, List.getElem_cons_zero, Act.put, List.setIfInBounds_toArray, List.set_cons_zero, List.set_cons_succ]
      refine wpAnyH_take (i := 6) (v := .int .i64 (sc : Int)) rfl (by kernel_rfl) (by kernel_rfl) (by kernel_rfl) (fun _ _ _ h => h) (Or.inl ⟨by rfl, fun w hSw => by go_simp⟩) (by assumption) ?_
      simp only [List.getElem_toArray, List.getElem_cons_succ, List.getElem_cons_zero, Act.put, List.setIfInBounds_toArray, List.set_cons_zero, List.set_cons_succ]
      refine wpAnyH_take (i := 7) (v := .int .i64 x4) rfl (by kernel_rfl) (by kernel_rfl) (by kernel_rfl) (fun _ _ _ h => h) (Or.inl ⟨by rfl, fun w hSw => by go_simp⟩) (by assumption) ?_
      simp only [List.getElem_toArray, List.getElem_cons_succ, List.getElem_cons_zero, Act.put, List.setIfInBounds_toArray, List.set_cons_zero, List.set_cons_succ]
      refine wpAnyH_ready (rs := [8]) (by kernel_rfl) (by simp) (AllReadyH.cons rfl (fun K hK => ?_) AllReadyH.nil)
      refine step_call2J (by rfl) 8 place17_enter (.tmp 98) _ _ rfl rfl rfl (unhide HPB _) ?_
      rintro e wq ⟨bit, rfl, hbit, rfl⟩
      refine ⟨_, rfl, ?_⟩
      refine hK.out _ _ (trivial) (fun hJ2 => ?_)
      clear hK K
      simp only [List.getElem_toArray, List.getElem_cons_succ, List.getElem_cons_zero, Act.put, List.setIfInBounds_toArray, List.set_cons_zero, List.set_cons_succ]
      refine wpAnyH_ready (rs := [9]) (by kernel_rfl) (by simp) (AllReadyH.cons rfl (fun K hK => ?_) AllReadyH.nil)
      refine step_call3J (by rfl) 15 turn_enterB (.tmp 91) (.tmp 97) (.tmp 99) _ rfl rfl rfl rfl (unhide HTU _ _ HK.out hbit) ?_
      rintro e wt ⟨rfl, hSt⟩
      have HSt := hide hSt
      clear hSt
      refine ⟨_, rfl, ?_⟩
      refine hK.out _ _ (trivial) (fun hJ3 => ?_)
      clear hK K
      simp only [List.getElem_toArray, List.getElem_cons_succ, List.getElem_cons_zero, Act.put, List.setIfInBounds_toArray, List.set_cons_zero, List.set_cons_succ]
      refine wpAnyH_take (i := 10) (v := .bool false) rfl (by kernel_rfl) (by kernel_rfl) (by kernel_rfl) (fun _ _ _ h => h) (Or.inl ⟨by rfl, fun w hSw => by go_simp⟩) (by assumption) ?_
      simp only [List.getElem_toArray, List.getElem_cons_succ, List.getElem_cons_zero, Act.put, List.setIfInBounds_toArray, List.set_cons_zero, List.set_cons_succ]
      refine wpAnyH_done (by kernel_rfl) ?_ _
      obtain ⟨D', hSt, hla, hrd, hr1, hr2⟩ := HSt.out
      have HR1 := hide hr1
      have HR2 := hide hr2
      have HSD := hide hSt
      have HLA := hide hla
      have HRD := hide hrd
      clear HSt hSt hla hrd hr1 hr2 hbit HPB HTU HK
      go_wp2_with fail
      refine (unhide HRP _ _ HSD.out HLA.out (by have := HRD.out; omega) first HF1.out.1).mono ?_
      rintro e wa ⟨va1, ma, Va, rfl, hma, hSa, _, hoa⟩
      obtain ⟨aa, ac, hsa, _⟩ := hoa.shape
      rw [HR1.out] at hsa
      subst hsa
      have HSA := hide hSa
      have HRA : Hid (0 ≤ (D'.rds ma).rd ∧ (D'.rds ma).rd ≤ 200) := hide (by have := HRD.out; simp only [AD.rds]; omega)
      clear hSa hoa HSD
      go_wp2_with fail
      refine (unhide HRP _ _ HSA.out (by have := HLA.out; simpa [AD.rds] using this) HRA.out f1 HF1.out.2).mono ?_
      rintro e wb ⟨vb1, mb, Vb, rfl, hmb, hSb, _, hob⟩
      have hrb : (repL (D'.rds ma).now 2 n n f1).length = m1 := HR2.out
      obtain ⟨ab, bc, hsb, _⟩ := hob.shape
      rw [hrb] at hsb
      subst hsb
      have HBE := hide hSb.be
      clear hSb hob hrb HSA HRA
      go_wp2
      go_ret
      exact ⟨rfl, HBE.out⟩
end Go.Proofs.YthhjlopgpmaokabDoor
