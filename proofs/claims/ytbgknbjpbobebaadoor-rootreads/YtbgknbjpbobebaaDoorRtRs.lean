/- What RootReads answers. -/
import Derived.Test.YtbgknbjpbobebaaDoorRtRe
import Derived.Test.YtbgknbjpbobebaaDoorRtWr
import Derived.Test.YtbgknbjpbobebaaDoorLawPu
namespace Go.Proofs.YtbgknbjpbobebaaDoor
open Go.RowKit Go.Maps

/-- Both disks behind so many Puts. -/
structure Rq (w W : World) (p g7 n k : Nat) (D : AD) (R : RD) : Prop where
  sn : Sn w W p D
  rel : Rel D R
  doc : ∃ a1 n1 c1 a2 n2 c2, Arr W g7 44 (rdC (R.n : Int) a1 n1 c1 a2 n2 c2 R.rd R.wt R.fl) ∧ IsAts W (.slice a1 n1 c1) R.la ∧ IsAts W (.slice a2 n2 c2) R.wr
  la : D.la.length = n
  wt : 0 ≤ D.wt ∧ D.wt ≤ (k : Int)
  fl : 0 ≤ D.fl ∧ D.fl ≤ (k : Int)
  rd : D.rd = 0
  wr : ∀ i, (D.wr i).length ≤ k
  rl : R.la.length + R.wr.length ≤ k
  lo : w.heap.size ≤ g7
theorem Rq.below {w W W' : World} {p g7 n k : Nat} {D : AD} {R : RD} (h : Rq w W p g7 n k D R) (hb : Below W.heap.size W W') : Rq w W' p g7 n k D R := by
  obtain ⟨a1, n1, c1, a2, n2, c2, q1, q2, q3⟩ := h.doc
  exact ⟨h.sn.below hb, h.rel, ⟨a1, n1, c1, a2, n2, c2, q1.below hb, q2.below hb, q3.below hb⟩, h.la, h.wt, h.fl, h.rd, h.wr, h.rl, h.lo⟩
/-- The program's disk is ahead of the document's. -/
structure Rm (w W : World) (p g7 n k : Nat) (D : AD) (R : RD) (D' : AD) : Prop where
  sn : Sn w W p D'
  doc : ∃ a1 n1 c1 a2 n2 c2, Arr W g7 44 (rdC (R.n : Int) a1 n1 c1 a2 n2 c2 R.rd R.wt R.fl) ∧ IsAts W (.slice a1 n1 c1) R.la ∧ IsAts W (.slice a2 n2 c2) R.wr
theorem Rm.below {w W W' : World} {p g7 n k : Nat} {D D' : AD} {R : RD} (h : Rm w W p g7 n k D R D') (hb : Below W.heap.size W W') : Rm w W' p g7 n k D R D' := by
  obtain ⟨a1, n1, c1, a2, n2, c2, q1, q2, q3⟩ := h.doc
  exact ⟨h.sn.below hb, ⟨a1, n1, c1, a2, n2, c2, q1.below hb, q2.below hb, q3.below hb⟩⟩
theorem Rq.ahead {w W W' : World} {p g7 n k : Nat} {D D' : AD} {R : RD} (h : Rq w W p g7 n k D R) (hs : Sn w W' p D') (hc : Cj TDk W W') : Rm w W' p g7 n k D R D' := by
  have t1 : ¬ TDk 44 := by unfold TDk; decide
  have t2 : ¬ TDk 94 := by unfold TDk; decide
  have t3 : ¬ TDk 5 := by unfold TDk; decide
  obtain ⟨a1, n1, c1, a2, n2, c2, q1, q2, q3⟩ := h.doc
  exact ⟨hs, ⟨a1, n1, c1, a2, n2, c2, q1.cj hc t1, q2.cj hc t2 t3, q3.cj hc t2 t3⟩⟩
/-- The document's disk follows. -/
theorem Rm.put {w W W' : World} {p g7 n k k' : Nat} {D D' : AD} {R R' : RD} (h : Rm w W p g7 n k D R D') (hlo : w.heap.size ≤ g7) (hg : W.grownBy W' (some g7)) {a1 a2 : Option Addr} {n1 c1 n2 c2 : Nat} (hA : Arr W' g7 44 (rdC (R'.n : Int) a1 n1 c1 a2 n2 c2 R'.rd R'.wt R'.fl)) (h1 : IsAts W (.slice a1 n1 c1) R'.la) (h2 : IsAts W (.slice a2 n2 c2) R'.wr)
    (hrel : Rel D' R') (hla : D'.la.length = n) (hwt : 0 ≤ D'.wt ∧ D'.wt ≤ (k' : Int)) (hfl : 0 ≤ D'.fl ∧ D'.fl ≤ (k' : Int)) (hrd : D'.rd = 0) (hwr : ∀ i, (D'.wr i).length ≤ k') (hrl : R'.la.length + R'.wr.length ≤ k') : Rq w W' p g7 n k' D' R' := by
  obtain ⟨_, _, _, _, _, _, q1, _, _⟩ := h.doc
  have hc : Cj (fun t => t = 44) W W' := Cj.of_grown hg q1 rfl
  have td : ¬ TDk 44 := by unfold TDk; decide
  exact ⟨h.sn.set hg q1 td hlo, hrel, ⟨a1, n1, c1, a2, n2, c2, hA, h1.cj hc (by decide) (by decide), h2.cj hc (by decide) (by decide)⟩, hla, hwt, hfl, hrd, hwr, hrl, hlo⟩
theorem cntS_same {N : Nat} {f g : Nat → List Int} (h0 : f 0 = g 0) (h1 : f 1 = g 1) : cntS N f = cntS N g := by
  show newer (newer none (sndO N (f 0) 0)) (sndO N (f 1) 1) = newer (newer none (sndO N (g 0) 0)) (sndO N (g 1) 1)
  rw [h0, h1]
theorem sand1R (x : Int) : ∃ g : Nat, g < 2 ∧ bits .and .i64 x 1 = (g : Int) := by
  have hle : (BitVec.ofInt 64 x &&& BitVec.ofInt 64 1).toNat ≤ 1 := by
    rw [BitVec.toNat_and]
    exact Nat.le_trans Nat.and_le_right (by decide)
  refine ⟨(BitVec.ofInt 64 x &&& BitVec.ofInt 64 1).toNat, by omega, ?_⟩
  show IntKind.i64.wrap (((BitVec.ofInt 64 x &&& BitVec.ofInt 64 1).toNat : Nat) : Int) = _
  generalize (BitVec.ofInt 64 x &&& BitVec.ofInt 64 1).toNat = q at *
  rw [IntKind.wrap_i64]
  omega
/-- One Put on both disks. -/
theorem rq_write {D : AD} {R : RD} {n k i : Nat} {b : List Int} (hrel : Rel D R) (hla : D.la.length = n) (hi : i < n) (hb : IsSec b) (hwt : 0 ≤ D.wt ∧ D.wt ≤ (k : Int)) (hfl : 0 ≤ D.fl ∧ D.fl ≤ (k : Int)) (hwr : ∀ j, (D.wr j).length ≤ k) (hrl : R.la.length + R.wr.length ≤ k) :
    Rel (D.write i b) (R.write i b) ∧ (D.write i b).la.length = n ∧ (0 ≤ (D.write i b).wt ∧ (D.write i b).wt ≤ ((k + 1 : Nat) : Int)) ∧ (0 ≤ (D.write i b).fl ∧ (D.write i b).fl ≤ ((k + 1 : Nat) : Int)) ∧ (∀ j, ((D.write i b).wr j).length ≤ k + 1) ∧ (R.write i b).la.length + (R.write i b).wr.length ≤ k + 1 := by
  refine ⟨hrel.write (by omega) hb, hla, ?_, ?_, fun j => ?_, ?_⟩
  · show 0 ≤ D.wt + 1 ∧ D.wt + 1 ≤ _
    omega
  · show 0 ≤ D.fl ∧ D.fl ≤ _
    omega
  · simp only [AD.write, updF]
    split
    · rw [List.length_append, List.length_singleton]; have := hwr i; omega
    · have := hwr j; omega
  · simp only [RD.write, List.length_append, List.length_singleton]
    omega
theorem rq_flush {D : AD} {R : RD} {n k : Nat} (hrel : Rel D R) (hla : D.la.length = n) (hk : k < 100) (hwt : 0 ≤ D.wt ∧ D.wt ≤ (k : Int)) (hfl : 0 ≤ D.fl ∧ D.fl < (k : Int)) (hwr : ∀ j, (D.wr j).length ≤ k) (hrl : R.la.length + R.wr.length ≤ k) :
    Rel D.flush R.flush ∧ D.flush.la.length = n ∧ (0 ≤ D.flush.wt ∧ D.flush.wt ≤ (k : Int)) ∧ (0 ≤ D.flush.fl ∧ D.flush.fl ≤ (k : Int)) ∧ (∀ j, (D.flush.wr j).length ≤ k) ∧ R.flush.la.length + R.flush.wr.length ≤ k := by
  refine ⟨hrel.flush (fun j => by have := hwr j; omega), (AD.laAfter_len D _ _).trans hla, hwt, ?_, fun j => Nat.zero_le _, ?_⟩
  · show 0 ≤ D.fl + 1 ∧ D.fl + 1 ≤ _
    omega
  · show (RD.flushL R.la R.wr).length + 0 ≤ k
    have := flushL_len R.la R.wr
    omega
theorem asb {W W' : World} {o : Obj} (hg : (W.alloc o).grownBy W' (some W.heap.size)) : Below W.heap.size W W' := jbelow_grown (jalloc_below W o) hg (jalloc_below W o).size (Nat.le_refl _)
def z3A : List Value := [.int .i64 0, .int .i64 0, .int .i64 0]
theorem infoA3 : (Tryd.prog.info? 42).map (fun i => (i.zero, i.size, i.bytes)) = some (some (.agg z3A.toArray), 3, 24) := by kernel_rfl
theorem acts_one (a b c : Int) : ∀ u ∈ [Value.int .i64 a, .int .i64 b, .int .i64 c], u.oneCell' = true := by
  intro u hu
  simp only [List.mem_cons, List.not_mem_nil, or_false] at hu
  rcases hu with rfl | rfl | rfl <;> rfl
theorem tdk_acts : ¬ TDk 42 := by unfold TDk; decide
theorem loadRD {W : World} {g : Nat} {cs : List Value} (h : Arr W g 44 cs) (hi : (Tryd.prog.info? 44).map (·.size) = some cs.length) : (Instr.loadAt 44 (.pointer (some ⟨g, 0, none⟩))).run Tryd.prog W = .ok (.agg cs.toArray) W := run_loadAt_mid (P := Tryd.prog) W g 0 44 cs _ h.rangeJ Tryd.underlying44 rfl hi
theorem lbytes_enter (v : Value) (W : World) : (callFunc 15 #[v]).run Tryd.prog W = .ok (.enter 15 #[v]) W := by kernel_rfl
theorem rwrite_enterS (v u z : Value) (W : World) : (callFunc 16 #[v, u, z]).run Tryd.prog W = .ok (.enter 16 #[v, u, z]) W := by kernel_rfl
set_option maxRecDepth 100000 in
set_option maxHeartbeats 8000000 in
theorem rootReads_walk {w : World} (x : Int) {pa : Option Addr} {pn pc : Nat} {P : Nat → PutE} (hp : IsPu w pa pn pc P) (ht : Tab w) : Calls Tryd.prog 4 #[.int .i64 x, .slice pa pn pc] w fun e w' => e = .returned (.bool true) ∧ Below w.heap.size w w' := by
  by_cases hx : x < 2 ∨ 65536 < x
  · have HN : Hid (∀ W, Calls Tryd.prog 12 #[.int .i64 x] W fun e w' => e = .returned (.tuple #[.pointer none, .int .i64 30]) ∧ w' = W) := hide (fun W => new_bad hx)
    have HR : Hid (∀ W : World, Calls Tryd.prog 13 #[.int .i64 x] W fun e w' => Below W.heap.size W w' ∧ e = .returned (.tuple #[.agg z6D.toArray, .int .i64 30])) := hide (fun W => by have := rnew_calls (w := W) (n := x); rw [if_pos hx, if_pos hx] at this; exact this)
    have hinf6 : (Tryd.prog.info? 44).map (·.size) = some z6D.length := infoRD
    have hone6 : ∀ u ∈ z6D, u.oneCell' = true := rdC_oneS 0 none 0 0 none 0 0 0 0 0
    by_cases h4 : 4096 < x
    · clear hp ht hx
      go_enter Tryd.func4, Tryd.ntmps4
      go_wp2_with fail
      refine (unhide HN _).mono ?_
      rintro e wx ⟨rfl, hwx⟩
      obtain rfl := hwx.symm
      clear hwx
      go_wp2_with fail
      refine (unhide HR _).mono ?_
      rintro e w2 ⟨hb2, rfl⟩
      have HX : Hid (∀ w3, (w2.alloc (.cells z6D.toArray 44)).grownBy w3 (some w2.heap.size) → Below w.heap.size w w3) := hide (fun w3 hg3 => by
        have hba := jalloc_below w2 (.cells z6D.toArray 44)
        exact below_then hb2 (jbelow_grown hba hg3 hba.size (Nat.le_refl _)))
      clear hb2
      go_wp2_with (first
        | (refine wpList_allocJ rfl 44 rfl infoD0 ?_)
        | (refine wpList_storeJ rfl (.tmp 7) (.tmp 27) 44 rfl rfl (ds := z6D) rfl (Arr.new w2 z6D 44) hinf6 rfl hone6 ?_; intro w3 hA3 hg3
           have HB3 := hide (unhide HX w3 hg3)
           clear hA3 hg3 HX)
        | fail)
      go_ret
      exact ⟨rfl, HB3.out⟩
    · have h4d : decide (4096 < x) = false := by simpa using h4
      clear hp ht hx h4
      go_enter Tryd.func4, Tryd.ntmps4
      go_wp2_with fail
      refine (unhide HN _).mono ?_
      rintro e wx ⟨rfl, hwx⟩
      obtain rfl := hwx.symm
      clear hwx
      go_wp2_with fail
      refine (unhide HR _).mono ?_
      rintro e w2 ⟨hb2, rfl⟩
      have HX : Hid (∀ w3, (w2.alloc (.cells z6D.toArray 44)).grownBy w3 (some w2.heap.size) → Below w.heap.size w w3) := hide (fun w3 hg3 => by
        have hba := jalloc_below w2 (.cells z6D.toArray 44)
        exact below_then hb2 (jbelow_grown hba hg3 hba.size (Nat.le_refl _)))
      clear hb2
      go_wp2_with (first
        | (refine wpList_allocJ rfl 44 rfl infoD0 ?_)
        | (refine wpList_storeJ rfl (.tmp 7) (.tmp 27) 44 rfl rfl (ds := z6D) rfl (Arr.new w2 z6D 44) hinf6 rfl hone6 ?_; intro w3 hA3 hg3
           have HB3 := hide (unhide HX w3 hg3)
           clear hA3 hg3 HX)
        | fail)
      go_ret
      exact ⟨rfl, HB3.out⟩
  · obtain ⟨n, rfl⟩ : ∃ n : Nat, x = (n : Int) := ⟨x.toNat, by omega⟩
    have hn2 : 2 ≤ n := by omega
    have hn6 : n ≤ 65536 := by omega
    have HN : Hid (∀ W, Below w.heap.size w W → Calls Tryd.prog 12 #[.int .i64 (n : Int)] W fun e w' => ∃ p, e = .returned (.tuple #[.pointer (some ⟨p, 0, none⟩), .int .i64 0]) ∧ Sn w w' p (zeroD n) ∧ Below W.heap.size W w') := hide (fun W hW => sn_new hW hn2 hn6)
    have HR : Hid (∀ W : World, Calls Tryd.prog 13 #[.int .i64 (n : Int)] W fun e w' => Below W.heap.size W w' ∧ e = .returned (.tuple #[.agg (rdC (n : Int) none 0 0 none 0 0 0 0 0).toArray, .int .i64 0])) := hide (fun W => by have := rnew_calls (w := W) (n := (n : Int)); rw [if_neg hx, if_neg hx] at this; exact this)
    have hinf6 : (Tryd.prog.info? 44).map (·.size) = some (rdC (n : Int) none 0 0 none 0 0 0 0 0).length := infoRD
    have hone6 := rdC_oneS (n : Int) none 0 0 none 0 0 0 0 0
    have hlen6 : z6D.length = (rdC (n : Int) none 0 0 none 0 0 0 0 0).length := rfl
    by_cases h40 : 4096 < n
    · have hI : (4096 : Int) < (n : Int) := by omega
      generalize rdC (n : Int) none 0 0 none 0 0 0 0 0 = rc at *
      clear hp ht hx
      go_enter Tryd.func4, Tryd.ntmps4
      go_wp2_with fail
      refine (unhide HN _ (Below.refl _ _)).mono ?_
      rintro e w2 ⟨p, rfl, hS2, _⟩
      have HS2 := hide hS2
      clear hS2 HN
      go_wp2_with fail
      refine (unhide HR _).mono ?_
      rintro e w3 ⟨hb3, rfl⟩
      have HX : Hid (∀ w4, (w3.alloc (.cells z6D.toArray 44)).grownBy w4 (some w3.heap.size) → Sn w w4 p (zeroD n)) := hide (fun w4 hg4 => by
        have hba := jalloc_below w3 (.cells z6D.toArray 44)
        exact (HS2.out.below hb3).below (jbelow_grown hba hg4 hba.size (Nat.le_refl _)))
      have HLO9 : Hid (w.heap.size ≤ w3.heap.size) := hide (Nat.le_trans HS2.out.be.size hb3.size)
      clear hb3
      go_wp2_with (first
        | (refine wpList_allocJ rfl 44 rfl infoD0 ?_)
        | (refine wpList_storeJ rfl (.tmp 7) (.tmp 27) 44 rfl rfl (ds := rc) rfl (Arr.new w3 z6D 44) hinf6 hlen6 hone6 ?_; intro w4 hA4 hg4
           have HS4 := hide (unhide HX w4 hg4)
           have HD4 := hide hA4
           clear hA4 hg4 HX HS2)
        | fail)
      go_ret
      exact ⟨rfl, HS4.out.be⟩
    · have hI : decide ((4096 : Int) < (n : Int)) = false := by simp; omega
      have HREL0 : Hid (Rel (zeroD n) ⟨n, [], [], 0, 0, 0⟩) := hide (rel_q (n := n) (i := 0) (b := zsec) (by omega) zsec_is 0)
      have HRQ0 : Hid (∀ W p g7, Sn w W p (zeroD n) → Arr W g7 44 (rdC (n : Int) none 0 0 none 0 0 0 0 0) → w.heap.size ≤ g7 → Rq w W p g7 n 0 (zeroD n) ⟨n, [], [], 0, 0, 0⟩) := hide (fun W p g7 h1 h2 h3 => ⟨h1, HREL0.out, ⟨none, 0, 0, none, 0, 0, h2, IsAts.nil W, IsAts.nil W⟩, by simp [zeroD], ⟨Int.le_refl 0, Int.le_refl 0⟩, ⟨Int.le_refl 0, Int.le_refl 0⟩, rfl, fun i => by simp [zeroD], by simp, h3⟩)
      have HPU : Hid (∀ k, k < pn → ∃ b o, pa = some ⟨b, o, none⟩ ∧ ∀ W, Below w.heap.size w W → W.rangeAt b (o + k * 108) (P k).v ∧ (P k).s.Ok ∧ IsB W (P k).rv (P k).raw) := hide (fun k hk => by
        obtain ⟨_, _, hq⟩ := hp
        obtain ⟨b, o, ha, hj⟩ := hq (by omega)
        exact ⟨b, o, ha, fun W hW => ⟨jrange_kept (hj k hk).1 hW, (hj k hk).2.1, (hj k hk).2.2.below hW⟩⟩)
      have hpc : pn ≤ pc ∧ pc ≤ 9223372036854775807 := ⟨hp.1, hp.2.1⟩
      have HTB := hide ht
      generalize hrc : rdC (n : Int) none 0 0 none 0 0 0 0 0 = rc at *
      clear hp ht hx hrc
      go_enter Tryd.func4, Tryd.ntmps4
      go_wp2_with fail
      refine (unhide HN _ (Below.refl _ _)).mono ?_
      rintro e w2 ⟨p, rfl, hS2, _⟩
      have HS2 := hide hS2
      clear hS2 HN
      go_wp2_with fail
      refine (unhide HR _).mono ?_
      rintro e w3 ⟨hb3, rfl⟩
      have HX : Hid (∀ w4, (w3.alloc (.cells z6D.toArray 44)).grownBy w4 (some w3.heap.size) → Sn w w4 p (zeroD n)) := hide (fun w4 hg4 => by
        have hba := jalloc_below w3 (.cells z6D.toArray 44)
        exact (HS2.out.below hb3).below (jbelow_grown hba hg4 hba.size (Nat.le_refl _)))
      have HLO9 : Hid (w.heap.size ≤ w3.heap.size) := hide (Nat.le_trans HS2.out.be.size hb3.size)
      clear hb3
      go_wp2_with (first
        | (refine wpList_allocJ rfl 44 rfl infoD0 ?_)
        | (refine wpList_storeJ rfl (.tmp 7) (.tmp 27) 44 rfl rfl (ds := rc) rfl (Arr.new w3 z6D 44) hinf6 hlen6 hone6 ?_; intro w4 hA4 hg4
           have HS4 := hide (unhide HX w4 hg4)
           have HD4 := hide hA4
           clear hA4 hg4 HX HS2)
        | fail)
      have HQ0 := hide (unhide HRQ0 _ _ _ HS4.out HD4.out HLO9.out)
      generalize w3.heap.size = g7 at *
      clear HS4 HD4 HRQ0 HREL0
      go_loopw [9] (fun iv W => ∃ (k : Nat) (D : AD) (R : RD), k ≤ 8 ∧ iv = .int .i64 k ∧ Hid (Rq w W p g7 n k D R)) (fun iv _ => 8 - (intOf iv).toNat)
      case atStart => exact ⟨0, _, _, by decide, rfl, HQ0⟩
      case round =>
        clear HQ0
        obtain ⟨k, D, R, hk, rfl, HQ⟩ := hrel
        by_cases hc : k < pn
        case neg =>
          have hcd : decide ((k : Int) < (pn : Int)) = false := by simp; omega
          have hla := HQ.out.la
          have hsec : ∀ j : Nat, j < 2 → IsSec (D.now j) := fun j hj => HQ.out.sn.ok.now (i := j) (by omega)
          have hnow : ∀ j : Nat, j < 2 → R.now (j : Int) = D.now j := fun j hj => HQ.out.rel.now (by omega)
          have hcnt : cntS R.n (fun j => R.now (j : Int)) = cntS n D.now := by
            rw [HQ.out.rel.n, hla]
            exact cntS_same (hnow 0 (by decide)) (hnow 1 (by decide))
          have hrok : ((cntS n D.now).getD .nul).Ok := accO_ok (fun j hj => (hsec j hj).2) 2 (by decide)
          have HAC1 := hide (sn_acts HQ.out.sn)
          have HAC2 : Hid (∀ W, Sn w W p (D.sds 2) → Calls Tryd.prog 19 #[.pointer (some ⟨p, 0, none⟩)] W fun e w' => e = .returned (.agg #[.int .i64 (D.sds 2).rd, .int .i64 D.wt, .int .i64 D.fl]) ∧ Below W.heap.size W w') := hide (fun W h => sn_acts (D := D.sds 2) h)
          have HRP : Hid (∀ W, Sn w W p D → Calls Tryd.prog 20 #[.pointer (some ⟨p, 0, none⟩)] W fun e w' => e = .returned (.tuple #[.agg (slV ((cntS n D.now).getD .nul)).toArray, .int .i64 (oE (cntS n D.now))]) ∧ Sn w w' p (D.sds 2) ∧ Cj TDk W w') := hide (fun W h => by
            have := sread_calls h HTB.out (by rw [HQ.out.rd]; exact Int.le_refl 0) (by rw [HQ.out.rd]; decide)
            rw [hla] at this
            exact this)
          have HRN : Hid (∀ (W : World) a1 n1 c1 a2 n2 c2, IsAts W (.slice a1 n1 c1) R.la → IsAts W (.slice a2 n2 c2) R.wr → Calls Tryd.prog 21 #[.agg (rdC (R.n : Int) a1 n1 c1 a2 n2 c2 R.rd R.wt R.fl).toArray] W fun e w' => e = .returned (.tuple #[.agg (slV ((cntS n D.now).getD .nul)).toArray, .int .i64 (oE (cntS n D.now))]) ∧ Below W.heap.size W w') := hide (fun W a1 n1 c1 a2 n2 c2 h1 h2 => by
            have := rreadS_calls h1 h2 HQ.out.rel.lok HQ.out.rel.wok (fun j hj => by rw [hnow j hj]; exact (hsec j hj).2)
            rw [hcnt] at this
            exact this)
          have HNIL := hide read_nil
          have hinfS := infoSof hrok
          have hlenS : z105.length = (slV ((cntS n D.now).getD .nul)).length := by rw [slV_len hrok]; rfl
          have honeS := slV_one ((cntS n D.now).getD .nul)
          have heq : ∀ W, (binOp .eql 27 (.agg (slV ((cntS n D.now).getD .nul)).toArray) (.agg (slV ((cntS n D.now).getD .nul)).toArray)).run Tryd.prog W = .ok (.bool true) W := fun W => by rw [slot_eql hrok hrok, slEq_refl]
          have hgd := fun op xx y xs ys W => slot_guard op xx y xs ys W
          have hinfN := infoSof SL.nul_ok
          have hlenN : z105.length = (slV SL.nul).length := by rw [slV_len SL.nul_ok]; rfl
          have honeN := slV_one SL.nul
          generalize slV SL.nul = csN at *
          generalize slV ((cntS n D.now).getD .nul) = rs at *
          generalize oE (cntS n D.now) = re at *
          generalize (D.sds 2).rd = rd2 at *
          generalize hwt : D.wt = wt at *
          generalize hfl : D.fl = fl at *
          generalize hrd : D.rd = rd at *
          have hinf1 : (Tryd.prog.info? 42).map (·.size) = some [Value.int .i64 rd, .int .i64 wt, .int .i64 fl].length := infoAc
          have hone1 := acts_one rd wt fl
          have hinf2 : (Tryd.prog.info? 42).map (·.size) = some [Value.int .i64 rd2, .int .i64 wt, .int .i64 fl].length := infoAc
          have hone2 := acts_one rd2 wt fl
          clear hla hsec hnow hcnt hrok hwt hfl hrd HPU
          go_wp2_with fail
          refine (unhide HAC1).mono ?_
          rintro e w5 ⟨rfl, hb5⟩
          have HQ5 := hide (HQ.out.below hb5)
          clear hb5 HAC1 HQ
          go_wp2_with (first
            | (refine wpList_allocJ rfl 42 rfl infoA3 ?_)
            | (refine wpList_storeJ rfl (.tmp 11) (.tmp 83) 42 rfl rfl (ds := [.int .i64 rd, .int .i64 wt, .int .i64 fl]) rfl (Arr.new w5 z3A 42) hinf1 rfl hone1 ?_; intro w6 hA6 hg6
               have HQ6 := hide (HQ5.out.below (asb hg6))
               have HA6 := hide hA6
               clear hA6 hg6 HQ5)
            | fail)
          generalize w5.heap.size = g11 at *
          refine (unhide HRP _ HQ6.out.sn).mono ?_
          rintro e w7 ⟨rfl, hS7, hC7⟩
          have HM7 := hide (HQ6.out.ahead hS7 hC7)
          have HA7 := hide (HA6.out.cj hC7 tdk_acts)
          clear hS7 hC7 HA6 HQ6 HRP
          go_wp2_with (first
            | (refine wpList_allocJ rfl 27 rfl infoSlo ?_)
            | (refine wpList_storeJ rfl (.tmp 12) (.tmp 87) 27 rfl rfl rfl (Arr.new w7 z105 27) hinfS hlenS honeS ?_; intro w8 hA8 hg8
               have hM8 := HM7.out.below (asb hg8)
               obtain ⟨f1, m1, d1, f2, m2, d2, r1, r2, r3⟩ := hM8.doc
               have hrgD := r1.rangeJ
               have hinfD := rdC_infoS (R.n : Int) f1 m1 d1 f2 m2 d2 R.rd R.wt R.fl
               have HRC := hide (unhide HRN _ f1 m1 d1 f2 m2 d2 r2 r3)
               have HM8 := hide hM8
               have HA8 := hide (HA7.out.below (asb hg8))
               have HT8 := hide hA8
               generalize rdC (R.n : Int) f1 m1 d1 f2 m2 d2 R.rd R.wt R.fl = rcD at *
               clear hA8 hg8 hM8 r1 r2 r3 HM7 HA7)
            | (refine wpList_loadJ rfl 44 (.tmp 7) rfl _ 0 rfl rcD _ hrgD Tryd.underlying44 rfl hinfD ?_)
            | fail)
          generalize w7.heap.size = g12 at *
          refine (unhide HRC).mono ?_
          rintro e w9 ⟨rfl, hb9⟩
          have HM9 := hide (HM8.out.below hb9)
          have HA9 := hide (HA8.out.below hb9)
          have HT9 := hide (HT8.out.below hb9)
          clear hb9 HM8 HA8 HT8 HRC HRN hrgD
          go_wp2_with (first
            | (refine wpList_allocJ rfl 27 rfl infoSlo ?_)
            | (refine wpList_storeJ rfl (.tmp 14) (.tmp 92) 27 rfl rfl rfl (Arr.new w9 z105 27) hinfS hlenS honeS ?_; intro w10 hA10 hg10
               have HM10 := hide (HM9.out.below (asb hg10))
               have HA10 := hide (HA9.out.below (asb hg10))
               have HT10 := hide (HT9.out.below (asb hg10))
               have HU10 := hide hA10
               clear hA10 hg10 HM9 HA9 HT9)
            | fail)
          generalize w9.heap.size = g14 at *
          refine (unhide HAC2 _ HM10.out.sn).mono ?_
          rintro e w11 ⟨rfl, hb11⟩
          have HM11 := hide (HM10.out.below hb11)
          have HA11 := hide (HA10.out.below hb11)
          have HT11 := hide (HT10.out.below hb11)
          have HU11 := hide (HU10.out.below hb11)
          clear hb11 HM10 HA10 HT10 HU10 HAC2
          go_wp2_with (first
            | (refine wpList_allocJ rfl 42 rfl infoA3 ?_)
            | (refine wpList_storeJ rfl (.tmp 16) (.tmp 95) 42 rfl rfl (ds := [.int .i64 rd2, .int .i64 wt, .int .i64 fl]) rfl (Arr.new w11 z3A 42) hinf2 rfl hone2 ?_; intro w12 hA12 hg12
               have HM12 := hide (HM11.out.below (asb hg12))
               have HA12 := hide (HA11.out.below (asb hg12))
               have HT12 := hide (HT11.out.below (asb hg12))
               have HU12 := hide (HU11.out.below (asb hg12))
               have HV12 := hide hA12
               clear hA12 hg12 HM11 HA11 HT11 HU11)
            | fail)
          generalize w11.heap.size = g16 at *
          refine (unhide HNIL _).mono ?_
          rintro e w13 ⟨rfl, hb13⟩
          have HM13 := hide (HM12.out.below hb13)
          have HA13 := hide (HA12.out.below hb13)
          have HT13 := hide (HT12.out.below hb13)
          have HU13 := hide (HU12.out.below hb13)
          have HV13 := hide (HV12.out.below hb13)
          clear hb13 HM12 HA12 HT12 HU12 HV12 HNIL
          go_wp2_with (first
            | (refine wpList_allocJ rfl 27 rfl infoSlo ?_)
            | (refine wpList_storeJ rfl (.tmp 17) (.tmp 98) 27 rfl rfl rfl (Arr.new w13 z105 27) hinfN hlenN honeN ?_; intro w14 hA14 hg14
               have hb14 := asb hg14
               have HB14 := hide (HM13.out.below hb14).sn.be
               have hrt := (HT13.out.below hb14).rangeJ
               have hru := (HU13.out.below hb14).rangeJ
               have k11 := (HA13.out.below hb14).cell 1
               have k12 := (HA13.out.below hb14).cell 2
               have k21 := (HV13.out.below hb14).cell 1
               have k22 := (HV13.out.below hb14).cell 2
               simp only [List.getElem?_cons_succ, List.getElem?_cons_zero] at k11 k12 k21 k22
               clear hA14 hg14 hb14)
            | (refine wpList_loadOnS (by rfl) 27 (.tmp 12) rfl _ 0 rfl rs _ hrt Tryd.underlying27 rfl hinfS ?_)
            | (refine wpList_loadOnS (by rfl) 27 (.tmp 14) rfl _ 0 rfl rs _ hru Tryd.underlying27 rfl hinfS ?_)
            | fail)
          go_ret
          exact ⟨rfl, HB14.out⟩
        by_cases h8 : k < 8
        case neg =>
          have hcI : (k : Int) < (pn : Int) := by omega
          have h8d : decide ((k : Int) < 8) = false := by simp; omega
          have hla := HQ.out.la
          have hsec : ∀ j : Nat, j < 2 → IsSec (D.now j) := fun j hj => HQ.out.sn.ok.now (i := j) (by omega)
          have hnow : ∀ j : Nat, j < 2 → R.now (j : Int) = D.now j := fun j hj => HQ.out.rel.now (by omega)
          have hcnt : cntS R.n (fun j => R.now (j : Int)) = cntS n D.now := by
            rw [HQ.out.rel.n, hla]
            exact cntS_same (hnow 0 (by decide)) (hnow 1 (by decide))
          have hrok : ((cntS n D.now).getD .nul).Ok := accO_ok (fun j hj => (hsec j hj).2) 2 (by decide)
          have HAC1 := hide (sn_acts HQ.out.sn)
          have HAC2 : Hid (∀ W, Sn w W p (D.sds 2) → Calls Tryd.prog 19 #[.pointer (some ⟨p, 0, none⟩)] W fun e w' => e = .returned (.agg #[.int .i64 (D.sds 2).rd, .int .i64 D.wt, .int .i64 D.fl]) ∧ Below W.heap.size W w') := hide (fun W h => sn_acts (D := D.sds 2) h)
          have HRP : Hid (∀ W, Sn w W p D → Calls Tryd.prog 20 #[.pointer (some ⟨p, 0, none⟩)] W fun e w' => e = .returned (.tuple #[.agg (slV ((cntS n D.now).getD .nul)).toArray, .int .i64 (oE (cntS n D.now))]) ∧ Sn w w' p (D.sds 2) ∧ Cj TDk W w') := hide (fun W h => by
            have := sread_calls h HTB.out (by rw [HQ.out.rd]; exact Int.le_refl 0) (by rw [HQ.out.rd]; decide)
            rw [hla] at this
            exact this)
          have HRN : Hid (∀ (W : World) a1 n1 c1 a2 n2 c2, IsAts W (.slice a1 n1 c1) R.la → IsAts W (.slice a2 n2 c2) R.wr → Calls Tryd.prog 21 #[.agg (rdC (R.n : Int) a1 n1 c1 a2 n2 c2 R.rd R.wt R.fl).toArray] W fun e w' => e = .returned (.tuple #[.agg (slV ((cntS n D.now).getD .nul)).toArray, .int .i64 (oE (cntS n D.now))]) ∧ Below W.heap.size W w') := hide (fun W a1 n1 c1 a2 n2 c2 h1 h2 => by
            have := rreadS_calls h1 h2 HQ.out.rel.lok HQ.out.rel.wok (fun j hj => by rw [hnow j hj]; exact (hsec j hj).2)
            rw [hcnt] at this
            exact this)
          have HNIL := hide read_nil
          have hinfS := infoSof hrok
          have hlenS : z105.length = (slV ((cntS n D.now).getD .nul)).length := by rw [slV_len hrok]; rfl
          have honeS := slV_one ((cntS n D.now).getD .nul)
          have heq : ∀ W, (binOp .eql 27 (.agg (slV ((cntS n D.now).getD .nul)).toArray) (.agg (slV ((cntS n D.now).getD .nul)).toArray)).run Tryd.prog W = .ok (.bool true) W := fun W => by rw [slot_eql hrok hrok, slEq_refl]
          have hgd := fun op xx y xs ys W => slot_guard op xx y xs ys W
          have hinfN := infoSof SL.nul_ok
          have hlenN : z105.length = (slV SL.nul).length := by rw [slV_len SL.nul_ok]; rfl
          have honeN := slV_one SL.nul
          generalize slV SL.nul = csN at *
          generalize slV ((cntS n D.now).getD .nul) = rs at *
          generalize oE (cntS n D.now) = re at *
          generalize (D.sds 2).rd = rd2 at *
          generalize hwt : D.wt = wt at *
          generalize hfl : D.fl = fl at *
          generalize hrd : D.rd = rd at *
          have hinf1 : (Tryd.prog.info? 42).map (·.size) = some [Value.int .i64 rd, .int .i64 wt, .int .i64 fl].length := infoAc
          have hone1 := acts_one rd wt fl
          have hinf2 : (Tryd.prog.info? 42).map (·.size) = some [Value.int .i64 rd2, .int .i64 wt, .int .i64 fl].length := infoAc
          have hone2 := acts_one rd2 wt fl
          clear hla hsec hnow hcnt hrok hwt hfl hrd HPU
          go_wp2_with fail
          refine (unhide HAC1).mono ?_
          rintro e w5 ⟨rfl, hb5⟩
          have HQ5 := hide (HQ.out.below hb5)
          clear hb5 HAC1 HQ
          go_wp2_with (first
            | (refine wpList_allocJ rfl 42 rfl infoA3 ?_)
            | (refine wpList_storeJ rfl (.tmp 11) (.tmp 83) 42 rfl rfl (ds := [.int .i64 rd, .int .i64 wt, .int .i64 fl]) rfl (Arr.new w5 z3A 42) hinf1 rfl hone1 ?_; intro w6 hA6 hg6
               have HQ6 := hide (HQ5.out.below (asb hg6))
               have HA6 := hide hA6
               clear hA6 hg6 HQ5)
            | fail)
          generalize w5.heap.size = g11 at *
          refine (unhide HRP _ HQ6.out.sn).mono ?_
          rintro e w7 ⟨rfl, hS7, hC7⟩
          have HM7 := hide (HQ6.out.ahead hS7 hC7)
          have HA7 := hide (HA6.out.cj hC7 tdk_acts)
          clear hS7 hC7 HA6 HQ6 HRP
          go_wp2_with (first
            | (refine wpList_allocJ rfl 27 rfl infoSlo ?_)
            | (refine wpList_storeJ rfl (.tmp 12) (.tmp 87) 27 rfl rfl rfl (Arr.new w7 z105 27) hinfS hlenS honeS ?_; intro w8 hA8 hg8
               have hM8 := HM7.out.below (asb hg8)
               obtain ⟨f1, m1, d1, f2, m2, d2, r1, r2, r3⟩ := hM8.doc
               have hrgD := r1.rangeJ
               have hinfD := rdC_infoS (R.n : Int) f1 m1 d1 f2 m2 d2 R.rd R.wt R.fl
               have HRC := hide (unhide HRN _ f1 m1 d1 f2 m2 d2 r2 r3)
               have HM8 := hide hM8
               have HA8 := hide (HA7.out.below (asb hg8))
               have HT8 := hide hA8
               generalize rdC (R.n : Int) f1 m1 d1 f2 m2 d2 R.rd R.wt R.fl = rcD at *
               clear hA8 hg8 hM8 r1 r2 r3 HM7 HA7)
            | (refine wpList_loadJ rfl 44 (.tmp 7) rfl _ 0 rfl rcD _ hrgD Tryd.underlying44 rfl hinfD ?_)
            | fail)
          generalize w7.heap.size = g12 at *
          refine (unhide HRC).mono ?_
          rintro e w9 ⟨rfl, hb9⟩
          have HM9 := hide (HM8.out.below hb9)
          have HA9 := hide (HA8.out.below hb9)
          have HT9 := hide (HT8.out.below hb9)
          clear hb9 HM8 HA8 HT8 HRC HRN hrgD
          go_wp2_with (first
            | (refine wpList_allocJ rfl 27 rfl infoSlo ?_)
            | (refine wpList_storeJ rfl (.tmp 14) (.tmp 92) 27 rfl rfl rfl (Arr.new w9 z105 27) hinfS hlenS honeS ?_; intro w10 hA10 hg10
               have HM10 := hide (HM9.out.below (asb hg10))
               have HA10 := hide (HA9.out.below (asb hg10))
               have HT10 := hide (HT9.out.below (asb hg10))
               have HU10 := hide hA10
               clear hA10 hg10 HM9 HA9 HT9)
            | fail)
          generalize w9.heap.size = g14 at *
          refine (unhide HAC2 _ HM10.out.sn).mono ?_
          rintro e w11 ⟨rfl, hb11⟩
          have HM11 := hide (HM10.out.below hb11)
          have HA11 := hide (HA10.out.below hb11)
          have HT11 := hide (HT10.out.below hb11)
          have HU11 := hide (HU10.out.below hb11)
          clear hb11 HM10 HA10 HT10 HU10 HAC2
          go_wp2_with (first
            | (refine wpList_allocJ rfl 42 rfl infoA3 ?_)
            | (refine wpList_storeJ rfl (.tmp 16) (.tmp 95) 42 rfl rfl (ds := [.int .i64 rd2, .int .i64 wt, .int .i64 fl]) rfl (Arr.new w11 z3A 42) hinf2 rfl hone2 ?_; intro w12 hA12 hg12
               have HM12 := hide (HM11.out.below (asb hg12))
               have HA12 := hide (HA11.out.below (asb hg12))
               have HT12 := hide (HT11.out.below (asb hg12))
               have HU12 := hide (HU11.out.below (asb hg12))
               have HV12 := hide hA12
               clear hA12 hg12 HM11 HA11 HT11 HU11)
            | fail)
          generalize w11.heap.size = g16 at *
          refine (unhide HNIL _).mono ?_
          rintro e w13 ⟨rfl, hb13⟩
          have HM13 := hide (HM12.out.below hb13)
          have HA13 := hide (HA12.out.below hb13)
          have HT13 := hide (HT12.out.below hb13)
          have HU13 := hide (HU12.out.below hb13)
          have HV13 := hide (HV12.out.below hb13)
          clear hb13 HM12 HA12 HT12 HU12 HV12 HNIL
          go_wp2_with (first
            | (refine wpList_allocJ rfl 27 rfl infoSlo ?_)
            | (refine wpList_storeJ rfl (.tmp 17) (.tmp 98) 27 rfl rfl rfl (Arr.new w13 z105 27) hinfN hlenN honeN ?_; intro w14 hA14 hg14
               have hb14 := asb hg14
               have HB14 := hide (HM13.out.below hb14).sn.be
               have hrt := (HT13.out.below hb14).rangeJ
               have hru := (HU13.out.below hb14).rangeJ
               have k11 := (HA13.out.below hb14).cell 1
               have k12 := (HA13.out.below hb14).cell 2
               have k21 := (HV13.out.below hb14).cell 1
               have k22 := (HV13.out.below hb14).cell 2
               simp only [List.getElem?_cons_succ, List.getElem?_cons_zero] at k11 k12 k21 k22
               clear hA14 hg14 hb14)
            | (refine wpList_loadOnS (by rfl) 27 (.tmp 12) rfl _ 0 rfl rs _ hrt Tryd.underlying27 rfl hinfS ?_)
            | (refine wpList_loadOnS (by rfl) 27 (.tmp 14) rfl _ 0 rfl rs _ hru Tryd.underlying27 rfl hinfS ?_)
            | fail)
          go_ret
          exact ⟨rfl, HB14.out⟩
        have hcI : (k : Int) < (pn : Int) := by omega
        have h8I : (k : Int) < 8 := by omega
        obtain ⟨pb, po, rfl, hPK⟩ := unhide HPU k hc
        obtain ⟨hr0, hso, hrw0⟩ := hPK wr HQ.out.sn.be
        have HPK := hide hPK
        have hn0 : wr.cell? ⟨pb, po + k * 108, none⟩ = some (.int .i64 (P k).n) := hr0 0 _ rfl
        obtain ⟨i, hi2, hand⟩ := sand1R (P k).n
        have hinfP : (Tryd.prog.info? 48).map (·.size) = some (P k).v.length := by rw [putE_len hso]; kernel_rfl
        have hsec := bts_sec hso (show By8 (P k).raw from hrw0.mem) (P k).bit
        have HBY : Hid (∀ W, Below w.heap.size w W → Calls Tryd.prog 15 #[.agg (P k).v.toArray] W fun e w' => ∃ u, e = .returned u ∧ Own8 w' W.heap.size u (bts (P k).s (P k).bit (P k).raw) ∧ Below W.heap.size W w') := hide (fun W hW => lbytes_calls hso (hPK W hW).2.2)
        have HRG : Hid (∀ W, Below w.heap.size w W → W.rangeAt pb (po + k * 108) (P k).v) := hide (fun W hW => (hPK W hW).1)
        generalize bts (P k).s (P k).bit (P k).raw = bb at *
        generalize (P k).v = pv at *
        generalize (P k).n = pN at *
        have hla := HQ.out.la
        have HNX := hide (rq_write (b := bb) (i := i) HQ.out.rel hla (by omega) hsec HQ.out.wt HQ.out.fl HQ.out.wr HQ.out.rl)
        have HWP : Hid (∀ W B u, Sn w W p D → Own8 W B u bb → Calls Tryd.prog 14 #[.pointer (some ⟨p, 0, none⟩), .int .i64 (i : Int), u] W fun e w' => e = .returned (.int .i64 0) ∧ Sn w w' p (D.write i bb) ∧ Cj TDk W w') := hide (fun W B u hS ho => sn_write hS (by omega) HQ.out.wt.1 (by have := HQ.out.wt.2; omega) (by have := HQ.out.wr i; omega) hsec ho)
        have HWR : Hid (∀ (W : World) B a1 n1 c1 a2 n2 c2 u, IsAts W (.slice a2 n2 c2) R.wr → Own8 W B u bb → Calls Tryd.prog 16 #[.agg (rdC (R.n : Int) a1 n1 c1 a2 n2 c2 R.rd R.wt R.fl).toArray, .int .i64 (i : Int), u] W fun e w' => ∃ a3 n3 c3, e = .returned (.tuple #[.agg (rdC ((R.write i bb).n : Int) a1 n1 c1 a3 n3 c3 (R.write i bb).rd (R.write i bb).wt (R.write i bb).fl).toArray, .int .i64 0]) ∧ IsAts w' (.slice a3 n3 c3) (R.write i bb).wr ∧ Below W.heap.size W w') := hide (fun W B a1 n1 c1 a2 n2 c2 u h1 ho => by
          obtain ⟨ua, un, uc, rfl⟩ := ho.shape
          have hun := ho.isB.lenEq
          rw [hsec.1] at hun
          subst hun
          exact rwrite_good h1 ho.isB (by rw [HQ.out.rel.n, hla]; omega) (by have := HQ.out.rl; omega) (by rw [HQ.out.rel.wt]; exact HQ.out.wt.1) (by rw [HQ.out.rel.wt]; have := HQ.out.wt.2; omega))
        have HSE := hide hsec
        have HLA := hide hla
        clear hPK hso hrw0 hsec hla
        go_wp2_with (first
          | (refine wpList_loadJ rfl 48 (.tmp 61) rfl pb (po + k * 108) rfl pv _ hr0 Tryd.underlying48 rfl hinfP ?_)
          | fail)
        refine (unhide HBY _ HQ.out.sn.be).mono ?_
        rintro e w5 ⟨u5, rfl, ho5, hb5⟩
        obtain ⟨ua, un, uc, rfl⟩ := ho5.shape
        have HO5 := hide ho5
        have HQ5 := hide (HQ.out.below hb5)
        clear ho5 hb5 hr0 hn0
        go_wp2_with fail
        refine (unhide HWP _ _ _ HQ5.out.sn HO5.out).mono ?_
        rintro e w6 ⟨rfl, hS6, hC6⟩
        have HM6 := hide (HQ5.out.ahead hS6 hC6)
        clear hS6 hC6 HO5 HWP
        go_wp2_with fail
        obtain ⟨a1, n1, c1, a2, n2, c2, q1, q2, q3⟩ := HM6.out.doc
        have HBD := hide ((Below.refl w6.heap.size w6).drew)
        have HQ1 := hide q1
        have HQ2 := hide q2
        have HQ3 := hide q3
        have hinfA := rdC_infoS (R.n : Int) a1 n1 c1 a2 n2 c2 R.rd R.wt R.fl
        clear q1 q2 q3
        have HWC := hide (fun W B u (h1 : IsAts W (.slice a2 n2 c2) R.wr) (h2 : Own8 W B u bb) => unhide HWR W B a1 n1 c1 a2 n2 c2 u h1 h2)
        generalize hrA : rdC (R.n : Int) a1 n1 c1 a2 n2 c2 R.rd R.wt R.fl = rcA at *
        clear hrA HWR
        refine wp_region_held_drew (S := fun W => W.rangeAt pb (po + k * 108) pv) (by kernel_rfl) (unhide HRG _ (HM6.out.below HBD.out).sn.be) (fun hHeld => ?_)
        refine wpAnyH_take (i := 1) (v := .int .i64 (i : Int)) rfl (by kernel_rfl) (by kernel_rfl) (by kernel_rfl) (fun _ _ _ h => h) (Or.inl ⟨by rfl, fun w hSw => by go_simp⟩) (by assumption) ?_
        simp only [List.getElem_toArray, List.getElem_cons_succ, List.getElem_cons_zero, Act.put, List.setIfInBounds_toArray, List.set_cons_zero, List.set_cons_succ]
        refine wpAnyH_take (i := 2) (v := .slice (some ⟨pb, po, none⟩) pn pc) rfl (by kernel_rfl) (by kernel_rfl) (by kernel_rfl) (fun _ _ _ h => h) (Or.inl ⟨by rfl, fun w hSw => by go_simp⟩) (by assumption) ?_
        simp only [List.getElem_toArray, List.getElem_cons_succ, List.getElem_cons_zero, Act.put, List.setIfInBounds_toArray, List.set_cons_zero, List.set_cons_succ]
        refine wpAnyH_take (i := 3) (v := .int .i64 (k : Int)) rfl (by kernel_rfl) (by kernel_rfl) (by kernel_rfl) (fun _ _ _ h => h) (Or.inl ⟨by rfl, fun w hSw => by go_simp⟩) (by assumption) ?_
        simp only [List.getElem_toArray, List.getElem_cons_succ, List.getElem_cons_zero, Act.put, List.setIfInBounds_toArray, List.set_cons_zero, List.set_cons_succ]
        refine wpAnyH_take (i := 4) (v := .pointer (some ⟨pb, po + k * 108, none⟩)) rfl (by kernel_rfl) (by kernel_rfl) (by kernel_rfl) (fun _ _ _ h => h) (Or.inl ⟨by rfl, fun w hSw => by go_simp⟩) (by assumption) ?_
        simp only [List.getElem_toArray, List.getElem_cons_succ, List.getElem_cons_zero, Act.put, List.setIfInBounds_toArray, List.set_cons_zero, List.set_cons_succ]
        refine wpAnyH_take (i := 5) (v := .agg (pv).toArray) rfl (by kernel_rfl) (by kernel_rfl) (by kernel_rfl) (fun _ _ _ h => h) (yieldsIf_load_mid (by rfl) _ _ rfl _ _ rfl _ _ (fun w hSw => hSw) Tryd.underlying48 rfl hinfP) (by assumption) ?_
        simp only [List.getElem_toArray, List.getElem_cons_succ, List.getElem_cons_zero, Act.put, List.setIfInBounds_toArray, List.set_cons_zero, List.set_cons_succ]
        refine wpAnyH_ready (rs := [0, 6]) (by kernel_rfl) (by simp) (AllReadyH.cons rfl (fun K hK => ?_) (AllReadyH.cons rfl (fun K hK => ?_) AllReadyH.nil))
        · refine step_load1 (by rfl) 44 (.tmp 7) rfl rfl (loadRD (HQ1.out.below HBD.out) hinfA) ?_
          refine hK.out _ _ (unhide HRG _ (HM6.out.below HBD.out).sn.be) (fun hJ0 => ?_)
          clear hK K
          simp only [List.getElem_toArray, List.getElem_cons_zero, Act.put, List.setIfInBounds_toArray, List.set_cons_zero, List.set_cons_succ]
          refine wpAnyH_ready (rs := [6]) (by kernel_rfl) (by simp) (AllReadyH.cons rfl (fun K hK => ?_) AllReadyH.nil)
          refine step_call1J (by rfl) 15 lbytes_enter (.tmp 71) _ rfl rfl (unhide HBY _ (HM6.out.below HBD.out).sn.be) ?_
          rintro e wb ⟨ub, rfl, hob, hbb⟩
          have HOb := hide hob
          have HBb := hide (below_then HBD.out hbb)
          obtain ⟨va, vn, vc, rfl⟩ := hob.shape
          clear hob hbb
          refine ⟨_, rfl, ?_⟩
          refine hK.out _ _ (unhide HRG _ (HM6.out.below HBb.out).sn.be) (fun hJ6 => ?_)
          clear hK K
          simp only [List.getElem_toArray, List.getElem_cons_succ, List.getElem_cons_zero, Act.put, List.setIfInBounds_toArray, List.set_cons_zero, List.set_cons_succ]
          refine wpAnyH_ready (rs := [7]) (by kernel_rfl) (by simp) (AllReadyH.cons rfl (fun K hK => ?_) AllReadyH.nil)
          refine step_call3J (by rfl) 16 rwrite_enterS (.tmp 66) (.tmp 67) (.tmp 72) _ rfl rfl rfl rfl (unhide HWC _ _ _ (HQ3.out.below HBb.out) HOb.out) ?_
          rintro e wc ⟨a3, n3, c3, rfl, hIc, hbc⟩
          have HBc := hide (below_then HBb.out hbc)
          have HIc := hide hIc
          clear hbc hIc
          refine ⟨_, rfl, ?_⟩
          refine hK.out _ _ (unhide HRG _ (HM6.out.below HBc.out).sn.be) (fun hJc => ?_)
          clear hK K
          simp only [List.getElem_toArray, List.getElem_cons_succ, List.getElem_cons_zero, Act.put, List.setIfInBounds_toArray, List.set_cons_zero, List.set_cons_succ]
          have hinfB := rdC_infoS ((R.write i bb).n : Int) a1 n1 c1 a3 n3 c3 (R.write i bb).rd (R.write i bb).wt (R.write i bb).fl
          have honeB := rdC_oneS ((R.write i bb).n : Int) a1 n1 c1 a3 n3 c3 (R.write i bb).rd (R.write i bb).wt (R.write i bb).fl
          have hlenB : rcA.length = (rdC ((R.write i bb).n : Int) a1 n1 c1 a3 n3 c3 (R.write i bb).rd (R.write i bb).wt (R.write i bb).fl).length := Option.some.inj (hinfA.symm.trans hinfB)
          have HPUT : Hid (∀ wd, wc.grownBy wd (some g7) → Arr wd g7 44 (rdC ((R.write i bb).n : Int) a1 n1 c1 a3 n3 c3 (R.write i bb).rd (R.write i bb).wt (R.write i bb).fl) → Rq w wd p g7 n (k + 1) (D.write i bb) (R.write i bb)) := hide (fun wd hgd hAd => (HM6.out.below HBc.out).put (k' := k + 1) HQ.out.lo hgd hAd (HQ2.out.below HBc.out) HIc.out HNX.out.1 HNX.out.2.1 HNX.out.2.2.1 HNX.out.2.2.2.1 HQ.out.rd HNX.out.2.2.2.2.1 HNX.out.2.2.2.2.2)
          generalize rdC ((R.write i bb).n : Int) a1 n1 c1 a3 n3 c3 (R.write i bb).rd (R.write i bb).wt (R.write i bb).fl = rcB at *
          refine wpAnyH_take (i := 8) (v := .tuple #[.agg rcB.toArray, .int .i64 0]) rfl (by kernel_rfl) (by kernel_rfl) (by kernel_rfl) (fun _ _ _ h => h) (Or.inl ⟨by rfl, fun w hSw => by go_simp⟩) (by assumption) ?_
          simp only [List.getElem_toArray, List.getElem_cons_succ, List.getElem_cons_zero, Act.put, List.setIfInBounds_toArray, List.set_cons_zero, List.set_cons_succ]
          refine wpAnyH_take (i := 9) (v := .agg rcB.toArray) rfl (by kernel_rfl) (by kernel_rfl) (by kernel_rfl) (fun _ _ _ h => h) (Or.inl ⟨by rfl, fun w hSw => by go_simp⟩) (by assumption) ?_
          simp only [List.getElem_toArray, List.getElem_cons_succ, List.getElem_cons_zero, Act.put, List.setIfInBounds_toArray, List.set_cons_zero, List.set_cons_succ]
          refine wpAnyH_take (i := 10) (v := .int .i64 0) rfl (by kernel_rfl) (by kernel_rfl) (by kernel_rfl) (fun _ _ _ h => h) (Or.inl ⟨by rfl, fun w hSw => by go_simp⟩) (by assumption) ?_
          simp only [List.getElem_toArray, List.getElem_cons_succ, List.getElem_cons_zero, Act.put, List.setIfInBounds_toArray, List.set_cons_zero, List.set_cons_succ]
          refine wpAnyH_ready (rs := [11]) (by kernel_rfl) (by simp) (AllReadyH.cons rfl (fun K hK => ?_) AllReadyH.nil)
          refine step_storeJ (by rfl) (.tmp 7) (.tmp 74) 44 rfl rfl rfl (HQ1.out.below HBc.out) hinfB hlenB honeB ?_
          intro wd hAd hgd
          have HQ13 := hide (unhide HPUT wd hgd hAd)
          clear hAd hgd
          refine hK.out _ _ (unhide HRG _ HQ13.out.sn.be) (fun hJd => ?_)
          clear hK K
          simp only [List.getElem_toArray, List.getElem_cons_succ, List.getElem_cons_zero, Act.put]
          refine wpAnyH_done (by kernel_rfl) ?_ _
          by_cases h3 : k = 3
          · have h3I : ((k : Int) == 3) = true := by simp; omega
            have HFP : Hid (∀ W, Sn w W p (D.write i bb) → Calls Tryd.prog 17 #[.pointer (some ⟨p, 0, none⟩)] W fun e w' => e = .returned (.tuple #[]) ∧ Sn w w' p (D.write i bb).flush ∧ Cj TDk W w') := hide (fun W hS => sn_flush hS (fun j => by have := HNX.out.2.2.2.2.1 j; omega) HNX.out.2.2.2.1.1 (by have := HNX.out.2.2.2.1.2; omega))
            have HFX := hide (rq_flush (k := k + 1) HNX.out.1 HNX.out.2.1 (by omega) HNX.out.2.2.1 ⟨HNX.out.2.2.2.1.1, by have := HQ.out.fl.2; show D.fl < _; omega⟩ HNX.out.2.2.2.2.1 HNX.out.2.2.2.2.2)
            have HRD0 := hide HQ.out.rd
            have HLO := hide HQ.out.lo
            have h8k : k + 1 ≤ 8 := by omega
            clear HQ HM6 HNX HBY HRG HPK hc h8 h3
            go_wp2_with fail
            refine (unhide HFP _ HQ13.out.sn).mono ?_
            rintro e we ⟨rfl, hSe, hCe⟩
            have HMe := hide (HQ13.out.ahead hSe hCe)
            obtain ⟨f1, m1, d1, f2, m2, d2, r1, r2, r3⟩ := HMe.out.doc
            have hrgE := r1.rangeJ
            have hinfE := rdC_infoS ((R.write i bb).n : Int) f1 m1 d1 f2 m2 d2 (R.write i bb).rd (R.write i bb).wt (R.write i bb).fl
            have HFC : Hid (Calls Tryd.prog 18 #[.agg (rdC ((R.write i bb).n : Int) f1 m1 d1 f2 m2 d2 (R.write i bb).rd (R.write i bb).wt (R.write i bb).fl).toArray] we fun e w' => ∃ a3 n3 c3, e = .returned (.agg (rdC ((R.write i bb).flush.n : Int) a3 n3 c3 none 0 0 (R.write i bb).flush.rd (R.write i bb).flush.wt (R.write i bb).flush.fl).toArray) ∧ IsAts w' (.slice a3 n3 c3) (R.write i bb).flush.la ∧ Below we.heap.size we w') := hide (rflush_calls r2 r3 (by have := HQ13.out.rl; omega) (by rw [HQ13.out.rel.fl]; exact HQ13.out.fl.1) (by rw [HQ13.out.rel.fl]; have := HQ13.out.fl.2; omega))
            have HR1 := hide r1
            clear hSe hCe r1 r2 r3 HFP HQ13
            generalize rdC ((R.write i bb).n : Int) f1 m1 d1 f2 m2 d2 (R.write i bb).rd (R.write i bb).wt (R.write i bb).fl = rcE at *
            go_wp2_with (first
              | (refine wpList_loadJ rfl 44 (.tmp 7) rfl _ 0 rfl rcE _ hrgE Tryd.underlying44 rfl hinfE ?_)
              | fail)
            refine (unhide HFC).mono ?_
            rintro e wf ⟨a4, n4, c4, rfl, hIf, hbf⟩
            have HRf := hide (HR1.out.below hbf)
            have HMf := hide (HMe.out.below hbf)
            have HIf := hide hIf
            have hinfF := rdC_infoS ((R.write i bb).flush.n : Int) a4 n4 c4 none 0 0 (R.write i bb).flush.rd (R.write i bb).flush.wt (R.write i bb).flush.fl
            have honeF := rdC_oneS ((R.write i bb).flush.n : Int) a4 n4 c4 none 0 0 (R.write i bb).flush.rd (R.write i bb).flush.wt (R.write i bb).flush.fl
            have hlenF : rcE.length = (rdC ((R.write i bb).flush.n : Int) a4 n4 c4 none 0 0 (R.write i bb).flush.rd (R.write i bb).flush.wt (R.write i bb).flush.fl).length := Option.some.inj (hinfE.symm.trans hinfF)
            have HPUF : Hid (∀ wg, wf.grownBy wg (some g7) → Arr wg g7 44 (rdC ((R.write i bb).flush.n : Int) a4 n4 c4 none 0 0 (R.write i bb).flush.rd (R.write i bb).flush.wt (R.write i bb).flush.fl) → Rq w wg p g7 n (k + 1) (D.write i bb).flush (R.write i bb).flush) := hide (fun wg hgg hAg => HMf.out.put (k' := k + 1) HLO.out hgg hAg HIf.out (IsAts.nil _) HFX.out.1 HFX.out.2.1 HFX.out.2.2.1 HFX.out.2.2.2.1 HRD0.out HFX.out.2.2.2.2.1 HFX.out.2.2.2.2.2)
            clear hIf hbf HFC HMe HR1 hrgE HIf HMf
            generalize rdC ((R.write i bb).flush.n : Int) a4 n4 c4 none 0 0 (R.write i bb).flush.rd (R.write i bb).flush.wt (R.write i bb).flush.fl = rcF at *
            go_wp2_with (first
              | (refine wpList_storeJ rfl (.tmp 7) (.tmp 81) 44 rfl rfl (ds := rcF) rfl HRf.out hinfF hlenF honeF ?_; intro wg hAg hgg
                 have HQz := hide (unhide HPUF wg hgg hAg)
                 clear hAg hgg HPUF)
              | fail)
            refine ⟨⟨k + 1, _, _, h8k, by go_num, HQz⟩, ?_⟩
            simp [intOf]
            omega
          · have h3I : ((k : Int) == 3) = false := by simp; omega
            have h8k : k + 1 ≤ 8 := by omega
            clear HQ HM6 HNX HBY HRG HPK hc h8 h3
            go_wp2_with fail
            refine ⟨⟨k + 1, _, _, h8k, by go_num, HQ13⟩, ?_⟩
            simp [intOf]
            omega
        · refine step_call1J (by rfl) 15 lbytes_enter (.tmp 71) _ rfl rfl (unhide HBY _ (HM6.out.below HBD.out).sn.be) ?_
          rintro e wb ⟨ub, rfl, hob, hbb⟩
          have HOb := hide hob
          have HBb := hide (below_then HBD.out hbb)
          obtain ⟨va, vn, vc, rfl⟩ := hob.shape
          clear hob hbb
          refine ⟨_, rfl, ?_⟩
          refine hK.out _ _ (unhide HRG _ (HM6.out.below HBb.out).sn.be) (fun hJ6 => ?_)
          clear hK K
          simp only [List.getElem_toArray, List.getElem_cons_succ, List.getElem_cons_zero, Act.put, List.setIfInBounds_toArray, List.set_cons_zero, List.set_cons_succ]
          refine wpAnyH_ready (rs := [0]) (by kernel_rfl) (by simp) (AllReadyH.cons rfl (fun K hK => ?_) AllReadyH.nil)
          refine step_load1 (by rfl) 44 (.tmp 7) rfl rfl (loadRD (HQ1.out.below HBb.out) hinfA) ?_
          refine hK.out _ _ (unhide HRG _ (HM6.out.below HBb.out).sn.be) (fun hJ0 => ?_)
          clear hK K
          simp only [List.getElem_toArray, List.getElem_cons_zero, Act.put, List.setIfInBounds_toArray, List.set_cons_zero, List.set_cons_succ]
          refine wpAnyH_ready (rs := [7]) (by kernel_rfl) (by simp) (AllReadyH.cons rfl (fun K hK => ?_) AllReadyH.nil)
          refine step_call3J (by rfl) 16 rwrite_enterS (.tmp 66) (.tmp 67) (.tmp 72) _ rfl rfl rfl rfl (unhide HWC _ _ _ (HQ3.out.below HBb.out) HOb.out) ?_
          rintro e wc ⟨a3, n3, c3, rfl, hIc, hbc⟩
          have HBc := hide (below_then HBb.out hbc)
          have HIc := hide hIc
          clear hbc hIc
          refine ⟨_, rfl, ?_⟩
          refine hK.out _ _ (unhide HRG _ (HM6.out.below HBc.out).sn.be) (fun hJc => ?_)
          clear hK K
          simp only [List.getElem_toArray, List.getElem_cons_succ, List.getElem_cons_zero, Act.put, List.setIfInBounds_toArray, List.set_cons_zero, List.set_cons_succ]
          have hinfB := rdC_infoS ((R.write i bb).n : Int) a1 n1 c1 a3 n3 c3 (R.write i bb).rd (R.write i bb).wt (R.write i bb).fl
          have honeB := rdC_oneS ((R.write i bb).n : Int) a1 n1 c1 a3 n3 c3 (R.write i bb).rd (R.write i bb).wt (R.write i bb).fl
          have hlenB : rcA.length = (rdC ((R.write i bb).n : Int) a1 n1 c1 a3 n3 c3 (R.write i bb).rd (R.write i bb).wt (R.write i bb).fl).length := Option.some.inj (hinfA.symm.trans hinfB)
          have HPUT : Hid (∀ wd, wc.grownBy wd (some g7) → Arr wd g7 44 (rdC ((R.write i bb).n : Int) a1 n1 c1 a3 n3 c3 (R.write i bb).rd (R.write i bb).wt (R.write i bb).fl) → Rq w wd p g7 n (k + 1) (D.write i bb) (R.write i bb)) := hide (fun wd hgd hAd => (HM6.out.below HBc.out).put (k' := k + 1) HQ.out.lo hgd hAd (HQ2.out.below HBc.out) HIc.out HNX.out.1 HNX.out.2.1 HNX.out.2.2.1 HNX.out.2.2.2.1 HQ.out.rd HNX.out.2.2.2.2.1 HNX.out.2.2.2.2.2)
          generalize rdC ((R.write i bb).n : Int) a1 n1 c1 a3 n3 c3 (R.write i bb).rd (R.write i bb).wt (R.write i bb).fl = rcB at *
          refine wpAnyH_take (i := 8) (v := .tuple #[.agg rcB.toArray, .int .i64 0]) rfl (by kernel_rfl) (by kernel_rfl) (by kernel_rfl) (fun _ _ _ h => h) (Or.inl ⟨by rfl, fun w hSw => by go_simp⟩) (by assumption) ?_
          simp only [List.getElem_toArray, List.getElem_cons_succ, List.getElem_cons_zero, Act.put, List.setIfInBounds_toArray, List.set_cons_zero, List.set_cons_succ]
          refine wpAnyH_take (i := 9) (v := .agg rcB.toArray) rfl (by kernel_rfl) (by kernel_rfl) (by kernel_rfl) (fun _ _ _ h => h) (Or.inl ⟨by rfl, fun w hSw => by go_simp⟩) (by assumption) ?_
          simp only [List.getElem_toArray, List.getElem_cons_succ, List.getElem_cons_zero, Act.put, List.setIfInBounds_toArray, List.set_cons_zero, List.set_cons_succ]
          refine wpAnyH_take (i := 10) (v := .int .i64 0) rfl (by kernel_rfl) (by kernel_rfl) (by kernel_rfl) (fun _ _ _ h => h) (Or.inl ⟨by rfl, fun w hSw => by go_simp⟩) (by assumption) ?_
          simp only [List.getElem_toArray, List.getElem_cons_succ, List.getElem_cons_zero, Act.put, List.setIfInBounds_toArray, List.set_cons_zero, List.set_cons_succ]
          refine wpAnyH_ready (rs := [11]) (by kernel_rfl) (by simp) (AllReadyH.cons rfl (fun K hK => ?_) AllReadyH.nil)
          refine step_storeJ (by rfl) (.tmp 7) (.tmp 74) 44 rfl rfl rfl (HQ1.out.below HBc.out) hinfB hlenB honeB ?_
          intro wd hAd hgd
          have HQ13 := hide (unhide HPUT wd hgd hAd)
          clear hAd hgd
          refine hK.out _ _ (unhide HRG _ HQ13.out.sn.be) (fun hJd => ?_)
          clear hK K
          simp only [List.getElem_toArray, List.getElem_cons_succ, List.getElem_cons_zero, Act.put]
          refine wpAnyH_done (by kernel_rfl) ?_ _
          by_cases h3 : k = 3
          · have h3I : ((k : Int) == 3) = true := by simp; omega
            have HFP : Hid (∀ W, Sn w W p (D.write i bb) → Calls Tryd.prog 17 #[.pointer (some ⟨p, 0, none⟩)] W fun e w' => e = .returned (.tuple #[]) ∧ Sn w w' p (D.write i bb).flush ∧ Cj TDk W w') := hide (fun W hS => sn_flush hS (fun j => by have := HNX.out.2.2.2.2.1 j; omega) HNX.out.2.2.2.1.1 (by have := HNX.out.2.2.2.1.2; omega))
            have HFX := hide (rq_flush (k := k + 1) HNX.out.1 HNX.out.2.1 (by omega) HNX.out.2.2.1 ⟨HNX.out.2.2.2.1.1, by have := HQ.out.fl.2; show D.fl < _; omega⟩ HNX.out.2.2.2.2.1 HNX.out.2.2.2.2.2)
            have HRD0 := hide HQ.out.rd
            have HLO := hide HQ.out.lo
            have h8k : k + 1 ≤ 8 := by omega
            clear HQ HM6 HNX HBY HRG HPK hc h8 h3
            go_wp2_with fail
            refine (unhide HFP _ HQ13.out.sn).mono ?_
            rintro e we ⟨rfl, hSe, hCe⟩
            have HMe := hide (HQ13.out.ahead hSe hCe)
            obtain ⟨f1, m1, d1, f2, m2, d2, r1, r2, r3⟩ := HMe.out.doc
            have hrgE := r1.rangeJ
            have hinfE := rdC_infoS ((R.write i bb).n : Int) f1 m1 d1 f2 m2 d2 (R.write i bb).rd (R.write i bb).wt (R.write i bb).fl
            have HFC : Hid (Calls Tryd.prog 18 #[.agg (rdC ((R.write i bb).n : Int) f1 m1 d1 f2 m2 d2 (R.write i bb).rd (R.write i bb).wt (R.write i bb).fl).toArray] we fun e w' => ∃ a3 n3 c3, e = .returned (.agg (rdC ((R.write i bb).flush.n : Int) a3 n3 c3 none 0 0 (R.write i bb).flush.rd (R.write i bb).flush.wt (R.write i bb).flush.fl).toArray) ∧ IsAts w' (.slice a3 n3 c3) (R.write i bb).flush.la ∧ Below we.heap.size we w') := hide (rflush_calls r2 r3 (by have := HQ13.out.rl; omega) (by rw [HQ13.out.rel.fl]; exact HQ13.out.fl.1) (by rw [HQ13.out.rel.fl]; have := HQ13.out.fl.2; omega))
            have HR1 := hide r1
            clear hSe hCe r1 r2 r3 HFP HQ13
            generalize rdC ((R.write i bb).n : Int) f1 m1 d1 f2 m2 d2 (R.write i bb).rd (R.write i bb).wt (R.write i bb).fl = rcE at *
            go_wp2_with (first
              | (refine wpList_loadJ rfl 44 (.tmp 7) rfl _ 0 rfl rcE _ hrgE Tryd.underlying44 rfl hinfE ?_)
              | fail)
            refine (unhide HFC).mono ?_
            rintro e wf ⟨a4, n4, c4, rfl, hIf, hbf⟩
            have HRf := hide (HR1.out.below hbf)
            have HMf := hide (HMe.out.below hbf)
            have HIf := hide hIf
            have hinfF := rdC_infoS ((R.write i bb).flush.n : Int) a4 n4 c4 none 0 0 (R.write i bb).flush.rd (R.write i bb).flush.wt (R.write i bb).flush.fl
            have honeF := rdC_oneS ((R.write i bb).flush.n : Int) a4 n4 c4 none 0 0 (R.write i bb).flush.rd (R.write i bb).flush.wt (R.write i bb).flush.fl
            have hlenF : rcE.length = (rdC ((R.write i bb).flush.n : Int) a4 n4 c4 none 0 0 (R.write i bb).flush.rd (R.write i bb).flush.wt (R.write i bb).flush.fl).length := Option.some.inj (hinfE.symm.trans hinfF)
            have HPUF : Hid (∀ wg, wf.grownBy wg (some g7) → Arr wg g7 44 (rdC ((R.write i bb).flush.n : Int) a4 n4 c4 none 0 0 (R.write i bb).flush.rd (R.write i bb).flush.wt (R.write i bb).flush.fl) → Rq w wg p g7 n (k + 1) (D.write i bb).flush (R.write i bb).flush) := hide (fun wg hgg hAg => HMf.out.put (k' := k + 1) HLO.out hgg hAg HIf.out (IsAts.nil _) HFX.out.1 HFX.out.2.1 HFX.out.2.2.1 HFX.out.2.2.2.1 HRD0.out HFX.out.2.2.2.2.1 HFX.out.2.2.2.2.2)
            clear hIf hbf HFC HMe HR1 hrgE HIf HMf
            generalize rdC ((R.write i bb).flush.n : Int) a4 n4 c4 none 0 0 (R.write i bb).flush.rd (R.write i bb).flush.wt (R.write i bb).flush.fl = rcF at *
            go_wp2_with (first
              | (refine wpList_storeJ rfl (.tmp 7) (.tmp 81) 44 rfl rfl (ds := rcF) rfl HRf.out hinfF hlenF honeF ?_; intro wg hAg hgg
                 have HQz := hide (unhide HPUF wg hgg hAg)
                 clear hAg hgg HPUF)
              | fail)
            refine ⟨⟨k + 1, _, _, h8k, by go_num, HQz⟩, ?_⟩
            simp [intOf]
            omega
          · have h3I : ((k : Int) == 3) = false := by simp; omega
            have h8k : k + 1 ≤ 8 := by omega
            clear HQ HM6 HNX HBY HRG HPK hc h8 h3
            go_wp2_with fail
            refine ⟨⟨k + 1, _, _, h8k, by go_num, HQ13⟩, ?_⟩
            simp [intOf]
            omega
end Go.Proofs.YtbgknbjpbobebaaDoor
