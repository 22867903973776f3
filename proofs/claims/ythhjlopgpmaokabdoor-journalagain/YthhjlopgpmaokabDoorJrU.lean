/- What Replay answers. -/
import Derived.Test.YthhjlopgpmaokabDoorJrO
import Derived.Test.YthhjlopgpmaokabDoorKD
namespace Go.Proofs.YthhjlopgpmaokabDoor
open Go.RowKit Go.Maps

theorem tdk_rec : ¬ TDk 52 := by unfold TDk; decide
theorem tdk_ref : ¬ TDk 73 := by unfold TDk; decide
theorem Cj.grown_new {T : TypeId → Prop} {a w w' : World} {row : Option Nat} (h : Cj T a w) (hg : w.grownBy w' row) (hr : ∀ k, row = some k → a.heap.size ≤ k) : Cj T a w' :=
  ⟨hg.os.trans h.os, hg.tape.trans h.tape, hg.output.trans h.output, Nat.le_trans h.size hg.size, fun k cs t m hk ht => by
    have h1 := h.block k cs t m hk ht
    have hlt := (Array.getElem?_eq_some_iff.1 hk).1
    exact (hg.block k (Array.getElem?_eq_some_iff.1 h1).1 (fun e => by have := hr k e.symm; omega)).trans h1⟩
/-- The state of Replay. -/
structure RpS (w0 w W : World) (p : Nat) (D : AD) (fr n st k : Nat) (v : Value) : Prop where
  sn : Sn w0 W p (D.rds k)
  cj : Cj TDk w W
  own : ∃ l V, OwnL W w.heap.size v l V ∧ l.length = k ∧ repL D.now fr n n st = l ++ repL D.now fr n (n - k) (st + k)
theorem RpS.below {w0 w W W2 : World} {p : Nat} {D : AD} {fr n st k : Nat} {v : Value} (h : RpS w0 w W p D fr n st k v) (hb : Below W.heap.size W W2) : RpS w0 w W2 p D fr n st k v := by
  obtain ⟨l, V, h1, h2, h3⟩ := h.own
  exact ⟨h.sn.below hb, h.cj.trans (Cj.of_below hb), l, V, h1.below hb, h2, h3⟩
/-- The answer. -/
structure RpA (w0 w W : World) (p : Nat) (D : AD) (fr n st : Nat) (v : Value) : Prop where
  sn : ∃ m, m ≤ n ∧ Sn w0 W p (D.rds m)
  cj : Cj TDk w W
  own : ∃ V, OwnL W w.heap.size v (repL D.now fr n n st) V
set_option maxRecDepth 100000 in
set_option maxHeartbeats 8000000 in
theorem replay_calls {w0 w : World} {p fr n st : Nat} {D : AD} (h : Sn w0 w p D) (ht : Tab w0) (hr0 : 0 ≤ D.rd) (hr1 : D.rd ≤ 1000000000000000) (hn1 : 1 ≤ n) (hn : n ≤ 1024) (hfr : fr + n ≤ D.la.length) (hst : st ≤ 1099511627777) :
    Calls Tryd.prog 16 #[.pointer (some ⟨p, 0, none⟩), .int .i64 (fr : Int), .int .i64 (n : Int), .int .i64 (st : Int)] w fun e w' => ∃ v, e = .returned (.tuple #[v, .int .i64 0]) ∧ RpA w0 w w' p D fr n st v := by
  have hla := h.ok.hi
  have HSEC := hide (sn_sectors h)
  have HS0 : Hid (RpS w0 w w p D fr n st 0 (.slice none 0 0)) := hide ⟨by rw [AD.rds_zero]; exact h, Cj.refl _ _, [], _, OwnL.nil _ _, rfl, by rw [Nat.sub_zero, Nat.add_zero, List.nil_append]⟩
  obtain ⟨L, hL⟩ : ∃ L, L = D.la.length := ⟨_, rfl⟩
  rw [← hL] at hfr hla HSEC
  have HL := hide hL
  have HW0 := hide h.be.size
  have HT := hide ht
  have d1 : decide ((fr : Int) < 0) = false := by simp
  have d2 : decide ((n : Int) < 1) = false := by simp; omega
  have d3 : decide (1024 < (n : Int)) = false := by simp; omega
  have hsub : IntKind.i64.wrap ((L : Int) - (n : Int)) = (L : Int) - (n : Int) := IntWalk.i64_in _ (by omega)
  have d4 : decide ((L : Int) - (n : Int) < (fr : Int)) = false := by simp; omega
  have d5 : decide ((st : Int) < 0) = false := by simp
  have d6 : decide (1099511627777 < (st : Int)) = false := by simp; omega
  clear h ht hL
  go_enter Tryd.func16, Tryd.ntmps16
  go_wp2_with fail
  refine (unhide HSEC).mono ?_
  rintro e wn ⟨rfl, hwn⟩
  obtain rfl := hwn.symm
  clear hwn HSEC
  go_wp2_with fail
  go_loopw [10, 11] (fun bv nv W => ∃ (k x c : Nat) (a : Option Addr), k ≤ n ∧ bv = .slice a k c ∧ nv = .int .i64 (x : Int) ∧ k ≤ c ∧ Hid (x = st + k) ∧ Hid (RpS w0 w W p D fr n st k bv)) (fun bv _ _ => n - lenSl bv)
  case atStart => exact ⟨0, st, 0, none, Nat.zero_le _, rfl, rfl, Nat.zero_le _, hide (by rw [Nat.add_zero]), HS0⟩
  case round =>
    clear HS0
    obtain ⟨k, x, c, a, hk, rfl, rfl, hkc, HX, HS⟩ := hrel
    by_cases hlt : k < n
    · have hI : (k : Int) < (n : Int) := by omega
      have hx9 : x ≤ 1099511630000 := by have := HX.out; omega
      have HPL := hide (jplace_calls wr (fr := fr) (n := n) (s := x) hn1 hn (by omega) (by omega))
      have hmod := Nat.mod_lt x (show 0 < n by omega)
      obtain ⟨i, hi⟩ : ∃ i, i = fr + x % n := ⟨_, rfl⟩
      have hiL : i < L := by omega
      rw [← hi] at HPL
      have HI := hide hi
      have HRD : Hid (Calls Tryd.prog 22 #[.pointer (some ⟨p, 0, none⟩), .int .i64 (i : Int)] wr fun e w' => ∃ g, e = .returned (.tuple #[.slice (some ⟨g, 0, none⟩) 512 512, .int .i64 0]) ∧ IsB w' (.slice (some ⟨g, 0, none⟩) 512 512) (D.now i) ∧ Sn w0 w' p (D.rds (k + 1)) ∧ Cj TDk wr w') := hide (by
        have := sn_read HS.out.sn (i := i) (by show i < D.la.length; rw [← HL.out]; exact hiL) (by show 0 ≤ D.rd + (k : Int); omega) (by show D.rd + (k : Int) ≤ _; omega)
        rw [AD.rds_one] at this
        exact this)
      have hbk : By8 (D.now i) := (HS.out.sn.ok.now (i := i) (by rw [show (D.rds k).la.length = L from HL.out.symm]; exact hiL)).2
      have HBK := hide hbk
      have HREC : Hid (recAt D.now fr n x = (decO (D.now i)).bind fun r => if r.n = (x : Int) then some r else none) := hide (by unfold recAt; rw [HI.out])
      have hxw : IntKind.i64.wrap ((x : Int) + 1) = ((x + 1 : Nat) : Int) := by rw [IntKind.wrap_i64]; omega
      clear hi hbk hmod
      go_wp2_with fail
      refine (unhide HPL).mono ?_
      rintro e w1 ⟨rfl, hw1⟩
      obtain rfl := hw1.symm
      clear hw1 HPL
      go_wp2_with fail
      refine (unhide HRD).mono ?_
      rintro e w2 ⟨g, rfl, hb2, hsn2, hcj2⟩
      have HDC := hide (jdec_calls hb2 (HT.out.below hsn2.be))
      have HS2 := hide hsn2
      have HC2 := hide hcj2
      clear HRD hb2 hsn2 hcj2
      go_wp2_with fail
      refine (unhide HDC).mono ?_
      rintro e w3 ⟨u, rfl, ho3, hb3⟩
      have hrok : (decR (D.now i)).Ok := by
        cases hd : decO (D.now i) with
        | none => rw [(decR_none hd).1]; exact JR.nul_ok
        | some r => rw [(decR_some hd).1]; exact dec_ok HBK.out hd
      have HO3 := hide ho3
      have hinf := infoRof hrok.len u
      have hlen : z34R.length = (jrV (decR (D.now i)) u).length := by rw [jrV_len hrok.len]; decide
      have hone := jrV_one (decR (D.now i)) ho3.isJ.one
      have hsn3 := HS2.out.below hb3
      have hws : w.heap.size ≤ w3.heap.size := Nat.le_trans HS.out.cj.size (Nat.le_trans HC2.out.size hb3.size)
      have hba := jalloc_below w3 (.cells z34R.toArray 52)
      have HX4 : Hid (∀ w4, Arr w4 w3.heap.size 52 (jrV (decR (D.now i)) u) → (w3.alloc (.cells z34R.toArray 52)).grownBy w4 (some w3.heap.size) →
          Sn w0 w4 p (D.rds (k + 1)) ∧ Cj TDk w w4 ∧ OwnJ w4 w.heap.size u (decR (D.now i)).rs ∧ (∃ l V, OwnL w4 w.heap.size (.slice a k c) l V ∧ l.length = k ∧ repL D.now fr n n st = l ++ repL D.now fr n (n - k) (st + k)) ∧ w4.cell? ⟨w3.heap.size, 0, none⟩ = some (.int .i64 (decR (D.now i)).n) ∧ w.heap.size ≤ w4.heap.size) := hide (fun w4 hA4 hg4 => by
        have hA0 := Arr.new w3 z34R 52
        have hsn4 : Sn w0 w4 p (D.rds (k + 1)) := (hsn3.below hba).set hg4 hA0 tdk_rec (Nat.le_trans HW0.out (by omega))
        have hold : Below w3.heap.size w3 w4 := jbelow_grown hba hg4 hba.size (Nat.le_refl _)
        obtain ⟨l, V, q1, q2, q3⟩ := HS.out.own
        have q4 : OwnL w3 w.heap.size (.slice a k c) l V := (q1.cj HC2.out tdk_rec tdk_ref).below hb3
        refine ⟨hsn4, (HS.out.cj.trans HC2.out).trans (Cj.of_below (below_then hb3 hold)), ?_, ⟨l, V, q4.below hold, q2, q3⟩, hA4.cell 0, Nat.le_trans hws hold.size⟩
        exact (ho3.mono (Nat.le_trans HS.out.cj.size HC2.out.size)).below hold)
      have HROK := hide hrok
      have HEND : Hid (∀ w4, recAt D.now fr n x = none → Sn w0 w4 p (D.rds (k + 1)) → Cj TDk w w4 → (∃ l V, OwnL w4 w.heap.size (.slice a k c) l V ∧ l.length = k ∧ repL D.now fr n n st = l ++ repL D.now fr n (n - k) (st + k)) → RpA w0 w w4 p D fr n st (.slice a k c)) := hide (fun w4 hno q1 q2 q3 => by
        obtain ⟨l, V, r1, r2, r3⟩ := q3
        rw [HX.out] at hno
        rw [repL_none hno, List.append_nil] at r3
        exact ⟨⟨k + 1, by omega, q1⟩, q2, V, by rw [r3]; exact r1⟩)
      clear HDC ho3 hb3 hrok hsn3 hba HS2 HC2 HS
      rcases hd : decO (D.now i) with _ | r
      · have hno : recAt D.now fr n x = none := by rw [HREC.out, hd]; rfl
        have hde : (decE (D.now i) != 0) = true := by rw [(decR_none hd).2]; rfl
        have HNO := hide hno
        generalize decE (D.now i) = de at *
        clear hd hno HREC
        go_wp2_with (first
          | (refine wpList_allocJ rfl 52 rfl infoR ?_)
          | (refine wpList_storeJ rfl (.tmp 14) (.tmp 63) 52 rfl rfl rfl (Arr.new w3 z34R 52) hinf hlen hone ?_; intro w4 hA4 hg4
             obtain ⟨y1, y2, y3, y4, y5, y6⟩ := unhide HX4 w4 hA4 hg4
             have HA := hide (unhide HEND w4 HNO.out y1 y2 y4)
             clear hA4 hg4 y1 y2 y3 y4 HX4 HEND))
        go_ret2
        exact ⟨_, rfl, HA.out⟩
      · have hde : decE (D.now i) = 0 := (decR_some hd).2
        have hdr : decR (D.now i) = r := (decR_some hd).1
        rw [hde]
        rw [hdr] at hinf hlen hone HX4 HROK ⊢
        by_cases hrn : r.n = (x : Int)
        · have hyes : recAt D.now fr n x = some r := by rw [HREC.out, hd]; simp [hrn]
          have hrn2 : (r.n != (x : Int)) = false := by rw [hrn]; simp
          obtain ⟨ua, un, uc, hus⟩ : ∃ ua un uc, u = .slice ua un uc := by
            have h34 := Arr.new w3 z34R 52
            obtain ⟨w4, ho4⟩ : ∃ w4, OwnJ w4 w2.heap.size u (decR (D.now i)).rs := ⟨_, HO3.out⟩
            obtain ⟨ua, uc, hu⟩ := ho4.shape
            exact ⟨ua, _, uc, hu⟩
          subst hus
          have HBS : Hid (∀ W, (Instr.buildSlice 29 1 #[(0, .agg (jrV r (.slice ua un uc)).toArray)]).run Tryd.prog W = .ok (.slice (some ⟨W.heap.size, 0, none⟩) 1 1) (W.alloc (.cells (jrV r (.slice ua un uc)).toArray 52))) := hide (fun W => bslRc HROK.out.len ua un uc W)
          have HNX : Hid (∀ l, repL D.now fr n n st = l ++ repL D.now fr n (n - k) (st + k) → repL D.now fr n n st = (l ++ [r]) ++ repL D.now fr n (n - (k + 1)) (st + (k + 1))) := hide (fun l hl => by
            have e := hyes
            rw [HX.out] at e
            rw [hl, show n - k = (n - (k + 1)) + 1 by omega, repL_some e, List.append_assoc]
            rfl)
          clear hd hyes hde hdr HREC HEND
          generalize r.n = rn at *
          go_wp2_with (first
            | (refine wpList_allocJ rfl 52 rfl infoR ?_)
            | (refine wpList_storeJ rfl (.tmp 14) (.tmp 63) 52 rfl rfl rfl (Arr.new w3 z34R 52) hinf hlen hone ?_; intro w4 hA4 hg4
               obtain ⟨y1, y2, y3, ⟨l, V, z1, z2, z3⟩, y5, y6⟩ := unhide HX4 w4 hA4 hg4
               have hrng := hA4.rangeJ
               have hbc := jalloc_below w4 (.cells (jrV r (.slice ua un uc)).toArray 52)
               have hOL := z1.below hbc
               have hOJ := y3.below hbc
               have hAR := Arr.new w4 (jrV r (.slice ua un uc)) 52
               have hsz := Nat.le_trans y6 hbc.size
               have hll : l.length ≤ 1000000 := by omega
               have HSN := hide (y1.below hbc)
               have HCJ := hide (y2.trans (Cj.of_below hbc))
               have HZ := hide (And.intro z2 z3)
               have HOL := hide hOL
               clear hA4 hg4 y1 y2 y3 z1 z2 z3 HX4 hOL)
            | (refine wpList_loadJ rfl 52 (.tmp 14) rfl _ 0 rfl (jrV r (.slice ua un uc)) _ hrng Tryd.underlying52 rfl hinf ?_)
            | (refine wpList_bslice1 rfl 29 (.tmp 74) rfl (v := .agg (jrV r (.slice ua un uc)).toArray) rfl (unhide HBS _) ?_)
            | (at_builtin; refine wpList_appR rfl (.tmp 73) (.tmp 75) rfl rfl HOL.out rfl hAR HROK.out hOJ hll hsz ?_; intro v6 w6 ho6 hg6
               have hsn6 := HSN.out.row hg6 HOL.out.row tdk_rec HW0.out
               have hcj6 : Cj TDk w w6 := HCJ.out.grown_new hg6 (fun q hq => (World.ownsRow.lt HOL.out.row q hq).1)
               obtain ⟨a6, c6, hv6, hle6⟩ := ho6.shape
               rw [List.length_append, HZ.out.1] at hv6 hle6
               subst hv6
               have HF : Hid (RpS w0 w w6 p D fr n st (k + 1) (.slice a6 (k + [r].length) c6)) := hide ⟨hsn6, hcj6, _, _, ho6, by rw [List.length_append, HZ.out.1]; rfl, unhide HNX _ HZ.out.2⟩
               clear ho6 hg6 hsn6 hcj6))
          go_roundw
          case rel => exact ⟨k + 1, x + 1, c6, a6, by omega, rfl, rfl, hle6, hide (by have := HX.out; omega), HF⟩
          case measure => simp [lenSl]; omega
        · have hno : recAt D.now fr n x = none := by rw [HREC.out, hd]; simp [hrn]
          have hrn2 : (r.n != (x : Int)) = true := by simpa using hrn
          have HNO := hide hno
          clear hd hno hde hdr HREC hrn
          generalize r.n = rn at *
          go_wp2_with (first
            | (refine wpList_allocJ rfl 52 rfl infoR ?_)
            | (refine wpList_storeJ rfl (.tmp 14) (.tmp 63) 52 rfl rfl rfl (Arr.new w3 z34R 52) hinf hlen hone ?_; intro w4 hA4 hg4
               obtain ⟨y1, y2, y3, y4, y5, y6⟩ := unhide HX4 w4 hA4 hg4
               have HA := hide (unhide HEND w4 HNO.out y1 y2 y4)
               clear hA4 hg4 y1 y2 y3 y4 HX4 HEND))
          go_ret2
          exact ⟨_, rfl, HA.out⟩
    · have hI : ¬ (k : Int) < (n : Int) := by omega
      have HA : Hid (RpA w0 w wr p D fr n st (.slice a k c)) := hide (by
        obtain rfl : k = n := by omega
        obtain ⟨l, V, q1, q2, q3⟩ := HS.out.own
        rw [Nat.sub_self] at q3
        refine ⟨⟨k, Nat.le_refl _, HS.out.sn⟩, HS.out.cj, V, ?_⟩
        rw [q3]
        show OwnL _ _ _ (l ++ []) V
        rw [List.append_nil]
        exact q1)
      clear HS
      go_wp2
      go_ret2
      exact ⟨_, rfl, HA.out⟩
end Go.Proofs.YthhjlopgpmaokabDoor
