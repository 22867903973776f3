/- Journals of any width: what Start, Move, Num answer, and the disk in plain terms. -/
import Derived.Test.YthhjlopgpmaokabDoorJrLb
namespace Go.Proofs.YthhjlopgpmaokabDoor
open Go.RowKit Go.Maps

set_option maxRecDepth 100000 in
set_option maxHeartbeats 1000000 in
theorem start_calls {w : World} {pj p fr n st nx : Nat} (h : Jn w pj p fr n st nx) : Calls Tryd.prog 19 #[.pointer (some ⟨pj, 0, none⟩)] w fun e w' => e = .returned (.int .i64 (st : Int)) ∧ w' = w := by
  obtain ⟨c0, c1, c2, c3, c4⟩ := h.cells
  clear h
  go_enter Tryd.func19, Tryd.ntmps19
  go_wp2
  go_ret
  exact ⟨rfl, rfl⟩
set_option maxRecDepth 100000 in
set_option maxHeartbeats 2000000 in
theorem move_calls {w0 w : World} {pj p fr n st nx s2 : Nat} {D : AD} (h : Js w0 w p pj fr n st nx D) (h1 : st ≤ s2) (h2 : s2 ≤ nx) : Calls Tryd.prog 20 #[.pointer (some ⟨pj, 0, none⟩), .int .i64 (s2 : Int)] w fun e w' => e = .returned (.int .i64 0) ∧ Js w0 w' p pj fr n s2 nx D := by
  obtain ⟨c0, c1, c2, c3, c4⟩ := h.jn.cells
  have hf := Arr.frozen h.jn 3
  have HF : Hid (Js w0 (w.setCell ⟨pj, 3, none⟩ (.int .i64 (s2 : Int))) p pj fr n s2 nx D) := hide ⟨h.sn.set (grown_set _ _ _ _) h.jn tdk_jn h.lo, Arr.set h.jn 3 _, h.lo⟩
  have d1 : ¬ s2 < st := by omega
  have d2 : ¬ nx < s2 := by omega
  clear h h1 h2
  go_enter Tryd.func20, Tryd.ntmps20
  go_wp2
  go_ret
  exact ⟨rfl, HF.out⟩
set_option maxRecDepth 100000 in
set_option maxHeartbeats 2000000 in
theorem num_calls {w0 w : World} {p pj fr n st nx pw : Nat} {D : AD} {u : Value} {pr : List Int} {num : Int} (h : Wj w0 w p pj fr n st nx D pw 0 0 num pr u) (hp : pr.length = 32) : Calls Tryd.prog 21 #[.pointer (some ⟨pw, 0, none⟩)] w fun e w' => e = .returned (.int .i64 (nx : Int)) ∧ w' = w := by
  obtain ⟨a0, a1, a2, a3, a4, a36⟩ := h.wt.cells hp
  have HWN := hide (written_calls a0)
  rw [show decide ((0 : Int) < 0) = false from rfl] at HWN
  have HNX := hide (next_calls h.jn)
  clear h hp
  go_enter Tryd.func21, Tryd.ntmps21
  go_wp2_with fail
  refine (unhide HWN).mono ?_
  rintro e wm ⟨rfl, hwm⟩
  obtain rfl := hwm.symm
  clear hwm HWN
  go_wp2_with fail
  refine (unhide HNX).mono ?_
  rintro e wm ⟨rfl, hwm⟩
  obtain rfl := hwm.symm
  clear hwm HNX
  go_wp2
  go_ret
  exact ⟨rfl, rfl⟩
/-- One of n, of a great n. -/
theorem place_big {x : Int} {n : Nat} (h0 : 0 < n) (hn : n ≤ 10000000000) (w : World) : Calls Tryd.prog 8 #[.int .i64 x, .int .i64 (n : Int)] w fun e w' => ∃ k : Nat, e = .returned (.int .i64 (k : Int)) ∧ k < n ∧ w = w' := by
  obtain ⟨r, hr⟩ : ∃ r, x.tmod (n : Int) = r := ⟨_, rfl⟩
  have hrb : -(n : Int) < r ∧ r < (n : Int) := by
    rw [← hr]
    by_cases h : x < 0
    · have e1 : x.tmod (n : Int) = -((-x).tmod (n : Int)) := by rw [Int.neg_tmod, Int.neg_neg]
      have e2 := Int.tmod_eq_emod_of_nonneg (a := -x) (b := n) (by omega)
      have e3 := Int.emod_nonneg (-x) (show (n : Int) ≠ 0 by omega)
      have e4 := Int.emod_lt_of_pos (-x) (show (0 : Int) < n by omega)
      omega
    · have e2 := Int.tmod_eq_emod_of_nonneg (a := x) (b := n) (by omega)
      have e3 := Int.emod_nonneg x (show (n : Int) ≠ 0 by omega)
      have e4 := Int.emod_lt_of_pos x (show (0 : Int) < n by omega)
      omega
  have hrw : IntKind.i64.wrap r = r := IntWalk.i64_in _ (by omega)
  have hnz : ¬ (n : Int) = 0 := by omega
  by_cases hneg : r < 0
  · obtain ⟨k, hk⟩ := Int.eq_ofNat_of_zero_le (show 0 ≤ r + n by omega)
    have hkw : IntKind.i64.wrap (r + n) = (k : Int) := by rw [IntWalk.i64_in _ (by omega), hk]
    have HK : Hid (k < n) := by show _ < _; omega
    clear hk hrb
    go_enter Tryd.func8, Tryd.ntmps8
    go_wp2
    go_ret
    exact ⟨k, rfl, HK.out, rfl⟩
  · obtain ⟨k, hk⟩ := Int.eq_ofNat_of_zero_le (show 0 ≤ r by omega)
    have HK : Hid (k < n) := by show _ < _; omega
    subst hk
    clear hrb
    go_enter Tryd.func8, Tryd.ntmps8
    go_wp2
    go_ret
    exact ⟨k, rfl, HK.out, rfl⟩
/-- The records that JournalWide adds. -/
def wideR (num : Nat) : JR := ⟨(num : Int), madeK (num % 65536), madeRs (num % 65536)⟩
theorem wideR_fine {num : Nat} (h : num ≤ 1099511627776) : (wideR num).Ok ∧ encE (wideR num) = 0 ∧ (wideR num).n = (num : Int) := ⟨madeR_ok (by omega) ⟨by omega, by omega⟩, madeR_enc _ (by omega) (by omega), rfl⟩
/-- What has been done to the disk, and what stands beside the journal. -/
structure Wd (D : AD) (fr n k r : Nat) : Prop where
  rd : 0 ≤ D.rd ∧ D.rd ≤ (r : Int)
  wt : D.wt = (k : Int)
  fl : D.fl = (k : Int)
  wr : ∀ i, D.wr i = []
  la : D.la.length = fr + 1027
  zero : ∀ s, s < fr + 1027 → (s < fr ∨ fr + n ≤ s) → D.now s = zsec
theorem Wd.lit {D : AD} {fr n k r : Nat} (h : Wd D fr n k r) : Lit D (r + k) :=
  ⟨by have := h.rd; omega, by have := h.wt; omega, by have := h.fl; omega, h.wr⟩
theorem Wd.new (fr n : Nat) : Wd (zeroD (fr + 1027)) fr n 0 0 :=
  ⟨⟨Int.le_refl 0, Int.le_refl 0⟩, rfl, rfl, fun _ => rfl, by simp [zeroD], fun s _ _ => zero_now _ _⟩
theorem Wd.rds {D : AD} {fr n k r m r2 : Nat} (h : Wd D fr n k r) (hm : r + m ≤ r2) : Wd (D.rds m) fr n k r2 :=
  ⟨by have := h.rd; simp only [AD.rds]; omega, h.wt, h.fl, h.wr, h.la, h.zero⟩
theorem Wd.put {D : AD} {fr n k r num : Nat} {b : List Int} (h : Wd D fr n k r) (hn : 1 ≤ n) : Wd (D.write (fr + num % n) b).flush fr n (k + 1) r := by
  have hm := Nat.mod_lt num (show 0 < n by omega)
  have hL := h.lit.put (i := fr + num % n) (b := b)
  refine ⟨h.rd, by show D.wt + 1 = _; rw [h.wt]; omega, by show D.fl + 1 = _; rw [h.fl]; omega, hL.wr, (flush_len _).trans h.la, fun s hs ho => ?_⟩
  rw [flush_now (by show s < D.la.length; rw [h.la]; exact hs) (by have := h.lit.one (i := fr + num % n) (b := b) s; omega), write_other _ _ (by omega)]
  exact h.zero s hs ho
/-- A journal behind k records; num is the next number. -/
def Wz (w W : World) (p pj fr n st num k r : Nat) : Prop := ∃ D, Js w W p pj fr n st num D ∧ Std D fr n st num wideR ∧ Wd D fr n k r
theorem Wz.below {w W W' : World} {p pj fr n st num k r : Nat} (h : Wz w W p pj fr n st num k r) (hb : Below W.heap.size W W') : Wz w W' p pj fr n st num k r := by
  obtain ⟨D, h1, h2⟩ := h
  exact ⟨D, h1.below hb, h2⟩
theorem Wz.be {w W : World} {p pj fr n st num k r : Nat} (h : Wz w W p pj fr n st num k r) : Below w.heap.size w W := by
  obtain ⟨D, h1, h2⟩ := h
  exact h1.sn.be
theorem Wz.le {w W : World} {p pj fr n st num k r : Nat} (h : Wz w W p pj fr n st num k r) : st ≤ num ∧ num ≤ st + n := by
  obtain ⟨D, h1, h2, h3⟩ := h
  exact ⟨h2.le, h2.len⟩
/-- A key and references beside it. -/
def Wk (W : World) (gk i : Nat) (u : Value) : Prop := Arr W gk 33 (KV i) ∧ ∃ B, OwnJ W B u (madeRs i)
theorem Wk.below {W W' : World} {gk i : Nat} {u : Value} (h : Wk W gk i u) (hb : Below W.heap.size W W') : Wk W' gk i u := by
  obtain ⟨h1, B, h2⟩ := h
  exact ⟨h1.below hb, B, h2.below hb⟩
theorem Wk.cj {T : TypeId → Prop} {W W' : World} {gk i : Nat} {u : Value} (h : Wk W gk i u) (hc : Cj T W W') (h1 : ¬ T 33) (h2 : ¬ T 73) : Wk W' gk i u := by
  obtain ⟨k1, B, k2⟩ := h
  exact ⟨k1.cj hc h1, B, k2.cj hc h2⟩
theorem Wk.isJ {W : World} {gk i : Nat} {u : Value} (h : Wk W gk i u) : IsJ W u (madeRs i) := by
  obtain ⟨_, B, h2⟩ := h
  exact h2.isJ
theorem tdk_key : ¬ TDk 33 := by unfold TDk; decide
/-- A writer is there. -/
def Wa (w W : World) (p pj fr n st num k r gk : Nat) (u : Value) (pw : Nat) (v : Value) : Prop := Wz w W p pj fr n st num k r ∧ Wt W pw 0 0 pj 0 (madeK (num % 65536)) v ∧ (∃ B, OwnJ W B v (madeRs (num % 65536))) ∧ w.heap.size ≤ pw ∧ Wk W gk (num % 65536) u
/-- It has written. -/
def Wb (w W : World) (p pj fr n st num k r gk : Nat) (u : Value) (pw : Nat) (v : Value) : Prop := ∃ D, Js w W p pj fr n st (num + 1) (D.write (fr + num % n) (encL (wideR num))) ∧ Std D fr n st num wideR ∧ Wd D fr n k r ∧ Wt W pw 1 0 pj (num : Int) (madeK (num % 65536)) v ∧ w.heap.size ≤ pw ∧ Wk W gk (num % 65536) u
section
variable {w W : World} {p pj fr n st num k r gk pw : Nat} {u v : Value}
theorem wz_full (h : Wz w W p pj fr n st num k r) (hn : n ≤ 1024) (hM : num ≤ 4300000000) : Calls Tryd.prog 17 #[.pointer (some ⟨pj, 0, none⟩)] W fun e w' => e = .returned (.bool (decide (n ≤ num - st))) ∧ Wz w w' p pj fr n st num k r := by
  obtain ⟨D, h1, h2, h3⟩ := h
  refine (full_calls h1.jn hn h2.le (by omega)).mono ?_
  rintro e w' ⟨rfl, hb⟩
  exact ⟨rfl, D, h1.below hb, h2, h3⟩
theorem wz_next (h : Wz w W p pj fr n st num k r) : Calls Tryd.prog 18 #[.pointer (some ⟨pj, 0, none⟩)] W fun e w' => e = .returned (.int .i64 (num : Int)) ∧ W = w' := by
  obtain ⟨D, h1, h2, h3⟩ := h
  exact (next_calls h1.jn).mono fun _ _ ⟨a, b⟩ => ⟨a, b.symm⟩
theorem wz_start (h : Wz w W p pj fr n st num k r) : Calls Tryd.prog 19 #[.pointer (some ⟨pj, 0, none⟩)] W fun e w' => e = .returned (.int .i64 (st : Int)) ∧ W = w' := by
  obtain ⟨D, h1, h2, h3⟩ := h
  exact (start_calls h1.jn).mono fun _ _ ⟨a, b⟩ => ⟨a, b.symm⟩
theorem wz_move {s2 : Nat} (h : Wz w W p pj fr n st num k r) (h1 : st ≤ s2) (h2 : s2 ≤ num) : Calls Tryd.prog 20 #[.pointer (some ⟨pj, 0, none⟩), .int .i64 (s2 : Int)] W fun e w' => e = .returned (.int .i64 0) ∧ Wz w w' p pj fr n s2 num k r := by
  obtain ⟨D, k1, k2, k3⟩ := h
  refine (move_calls k1 h1 h2).mono ?_
  rintro e w' ⟨rfl, q⟩
  exact ⟨rfl, D, q, k2.raise h1 h2, k3⟩
theorem wz_add (h : Wz w W p pj fr n st num k r) (hk : Wk W gk (num % 65536) u) (hn : n ≤ 1024) (hM : num ≤ 4300000000) (hroom : num - st < n) :
    Calls Tryd.prog 13 #[.pointer (some ⟨pj, 0, none⟩), .agg (KV (num % 65536)).toArray, u] W fun e w' => ∃ pw v, e = .returned (.tuple #[.pointer (some ⟨pw, 0, none⟩), .int .i64 0]) ∧ Wa w w' p pj fr n st num k r gk u pw v := by
  obtain ⟨D, h1, h2, h3⟩ := h
  refine (js_add hn h2.le (by omega) hroom h1 hk.isJ).mono ?_
  rintro e w' ⟨pw, v, rfl, q1, q2, q3, q4⟩
  exact ⟨pw, v, rfl, ⟨D, h1.below q4, h2, h3⟩, q1.wt, ⟨_, q2⟩, Nat.le_trans h1.sn.be.size q3, hk.below q4⟩
theorem wa_num (h : Wa w W p pj fr n st num k r gk u pw v) : Calls Tryd.prog 21 #[.pointer (some ⟨pw, 0, none⟩)] W fun e w' => e = .returned (.int .i64 (num : Int)) ∧ W = w' := by
  obtain ⟨⟨D, h1, h2, h3⟩, h4, _⟩ := h
  exact (num_calls ⟨h1.sn, h1.jn, h4⟩ (madeK_len _)).mono fun _ _ ⟨a, b⟩ => ⟨a, b.symm⟩
theorem wa_step1 (h : Wa w W p pj fr n st num k r gk u pw v) (ht : Tab w) (hn1 : 1 ≤ n) (hn : n ≤ 1024) (hM : num ≤ 4300000000) (hroom : num - st < n) (hr : r + k ≤ 1000000) :
    Calls Tryd.prog 14 #[.pointer (some ⟨pw, 0, none⟩)] W fun e w' => e = .returned (.tuple #[.bool false, .int .i64 0]) ∧ Wb w w' p pj fr n st num k r gk u pw v := by
  obtain ⟨⟨D, h1, h2, h3⟩, h4, ⟨B, h5⟩, h6, h7⟩ := h
  refine (js_step1 ht h1.lo hn1 hn h2.fit h2.le (by omega) hroom (by omega) h3.lit (by omega) ⟨h1.sn, h1.jn, h4⟩ h5 h6).mono ?_
  rintro e w' ⟨rfl, q1, q2⟩
  exact ⟨rfl, D, ⟨q1.sn, q1.jn, h1.lo⟩, h2, h3, q1.wt, h6, h7.cj q2.cj twt_key twt_ref⟩
theorem wb_step2 (h : Wb w W p pj fr n st num k r gk u pw v) (hn1 : 1 ≤ n) (hM : num ≤ 4300000000) (hroom : num - st < n) (hr : r + k ≤ 1000000) :
    Calls Tryd.prog 14 #[.pointer (some ⟨pw, 0, none⟩)] W fun e w' => e = .returned (.tuple #[.bool true, .int .i64 0]) ∧ Wz w w' p pj fr n st (num + 1) (k + 1) r ∧ Wk w' gk (num % 65536) u := by
  obtain ⟨D, h1, h2, h3, h4, h5, h6⟩ := h
  refine (js_step2 h3.lit (by omega) h1.lo ⟨h1.sn, h1.jn, h4⟩ h5).mono ?_
  rintro e w' ⟨rfl, q1, q2⟩
  obtain ⟨f1, f2, f3⟩ := wideR_fine (num := num) (by omega)
  have hle := h2.le
  exact ⟨rfl, ⟨_, q1, h2.put h3.lit (Nat.le_refl _) hle (by omega) f1 f2 f3, h3.put hn1⟩, h6.cj q2.cj twt_key twt_ref⟩
theorem wz_read {x : Nat} (h : Wz w W p pj fr n st num k r) (hx : x < fr + 1027) (hr : r ≤ 1000000) :
    Calls Tryd.prog 22 #[.pointer (some ⟨p, 0, none⟩), .int .i64 (x : Int)] W fun e w' => ∃ g b, e = .returned (.tuple #[.slice (some ⟨g, 0, none⟩) 512 512, .int .i64 0]) ∧ IsB w' (.slice (some ⟨g, 0, none⟩) 512 512) b ∧ (∀ s, st ≤ s → s < num → x = fr + s % n → b = encL (wideR s)) ∧ ((x < fr ∨ fr + n ≤ x) → b = zsec) ∧ Wz w w' p pj fr n st num k (r + 1) ∧ Cj TDk W w' := by
  obtain ⟨D, h1, h2, h3⟩ := h
  refine (sn_read (i := x) h1.sn (by rw [h3.la]; exact hx) h3.rd.1 (by have := h3.rd.2; omega)).mono ?_
  rintro e w' ⟨g, rfl, q1, q2, q3⟩
  refine ⟨g, _, rfl, q1, fun s a b hs => by rw [hs]; exact h2.sec s a b, h3.zero x hx, ⟨D.rds 1, ⟨?_, Arr.cj h1.jn q3 tdk_jn, h1.lo⟩, h2.same rfl (fun i _ => AD.rds_now _ _ _), h3.rds (Nat.le_refl _)⟩, q3⟩
  have := AD.rds_one D 0
  rw [AD.rds_zero] at this
  rw [← this]
  exact q2
theorem wide_dec {num : Nat} (hb : IsB W v (encL (wideR num))) (ht : Tab W) (hM : num ≤ 4300000000) :
    Calls Tryd.prog 23 #[v] W fun e w' => ∃ ua uc, e = .returned (.tuple #[.agg (jrV (wideR num) (.slice ua (madeRs (num % 65536)).length uc)).toArray, .int .i64 0]) ∧ OwnJ w' W.heap.size (.slice ua (madeRs (num % 65536)).length uc) (madeRs (num % 65536)) ∧ Below W.heap.size W w' := by
  obtain ⟨f1, f2, f3⟩ := wideR_fine (num := num) (by omega)
  refine (jdec_calls hb ht).mono ?_
  rintro e w' ⟨x, rfl, ho, hbl⟩
  rw [(decR_some (dec_enc f1 f2)).1] at ho ⊢
  rw [(decR_some (dec_enc f1 f2)).2]
  have ho2 : OwnJ w' W.heap.size x (madeRs (num % 65536)) := ho
  obtain ⟨ua, uc, rfl⟩ := ho2.shape
  exact ⟨ua, uc, rfl, ho2, hbl⟩
theorem wide_same {num : Nat} {u1 u2 : Value} (h1 : IsJ W u1 (madeRs (num % 65536))) (h2 : IsJ W u2 (madeRs (num % 65536))) (hM : num ≤ 4300000000) :
    Calls Tryd.prog 24 #[.agg (jrV (wideR num) u1).toArray, .agg (jrV (wideR num) u2).toArray] W fun e w' => e = .returned (.bool true) ∧ Below W.heap.size W w' :=
  samerec_calls (r := wideR num) (wideR_fine (by omega)).1 h1 h2
theorem wide_bld (num : Nat) (ua : Option Addr) (un uc : Nat) (W : World) : (Instr.build 52 #[(0, .int .i64 (num : Int)), (1, .agg (KV (num % 65536)).toArray), (2, .slice ua un uc)]).run Tryd.prog W = .ok (.agg (jrV (wideR num) (.slice ua un uc)).toArray) W := bR3 (madeK_len _) (num : Int) (madeRs (num % 65536)) ua un uc W
theorem wz_acts (h : Wz w W p pj fr n st num k r) : Calls Tryd.prog 25 #[.pointer (some ⟨p, 0, none⟩)] W fun e w' => ∃ rd : Int, e = .returned (.agg #[.int .i64 rd, .int .i64 (k : Int), .int .i64 (k : Int)]) ∧ Wz w w' p pj fr n st num k r := by
  obtain ⟨D, h1, h2, h3⟩ := h
  obtain ⟨gl, gm, V, q1, q2, q3⟩ := h1.sn
  have := acts_calls q1.cells.2.2.1 q1.cells.2.2.2.1 q1.cells.2.2.2.2
  rw [h3.wt, h3.fl] at this
  refine this.mono ?_
  rintro e w' ⟨rfl, hb⟩
  exact ⟨D.rd, rfl, D, h1.below hb, h2, h3⟩
theorem wz_replay (h : Wz w W p pj fr n st num k r) (ht : Tab w) (hn : n ≤ 1024) (hM : num ≤ 4300000000) (hr : r ≤ 1000000) :
    Calls Tryd.prog 16 #[.pointer (some ⟨p, 0, none⟩), .int .i64 (fr : Int), .int .i64 (n : Int), .int .i64 (st : Int)] W fun e w' => ∃ a c V, e = .returned (.tuple #[.slice a (num - st) c, .int .i64 0]) ∧ Wz w w' p pj fr n st num k (r + 1024) ∧ OwnL w' W.heap.size (.slice a (num - st) c) (recsL wideR st (num - st)) V := by
  obtain ⟨D, h1, h2, h3⟩ := h
  have hle := h2.le
  refine (js_replay h1.sn ht h3.rd.1 (by have := h3.rd.2; omega) h2.n1 hn h2.fit (by omega)).mono ?_
  rintro e w' ⟨v, m, V, rfl, hm, hS, hC, ho⟩
  rw [h2.rep (Nat.le_refl _) h2.le] at ho
  obtain ⟨a, c, rfl, hc⟩ := ho.shape
  rw [recsL_len] at ho ⊢
  exact ⟨a, c, V, rfl, ⟨_, ⟨hS, Arr.cj h1.jn hC tdk_jn, h1.lo⟩, h2.same rfl (fun i _ => AD.rds_now _ _ _), h3.rds (by omega)⟩, ho⟩
end
section
variable {ops : Array Oper} {rest : List Oper} {o : Oper} {a : Act} {Q : Exit → Act → World → Prop} {w : World} {K : Act → World → Prop} {E : Prop}
theorem wpList_bld3G (hw : Region.wanted o (yielded ops a.tmps) = true) (t : TypeId) (i j k : Nat) (x y z : Operand) (ho : o.op = .build t #[(i, x), (j, y), (k, z)]) {vx vy vz v : Value} (hx : a.eval x = vx) (hy : a.eval y = vy) (hz : a.eval z = vz) (hrun : ∀ W, (Instr.build t #[(i, vx), (j, vy), (k, vz)]).run Tryd.prog W = .ok v W)
    (hk : wpList Tryd.prog ops Q rest (a.put o.dst v) w) : wpList Tryd.prog ops Q (o :: rest) a w := by
  refine wpList_on hw fun K hK => ?_
  unfold Oper.wp execOp
  simp only [ho, List.map_toArray, List.map_cons, List.map_nil, hx, hy, hz, Sem.run_bind, hrun w, Result.andThen_ok, Sem.run_pure]
  exact hK _ _ hk
end
end Go.Proofs.YthhjlopgpmaokabDoor
