/- A path joins those that rise. Paths made so far, none under another one: a path joins them. -/
import Derived.Test.YtfhfobikbfbajaaGreatDoorTBA
import Derived.Test.YtfhfobikbfbajaaGreatDoorTAU
import Derived.Test.YtfhfobikbfbajaaGreatDoorTAE
namespace Go.Proofs.YtfhfobikbfbajaaGreatDoor
open Go.RowKit Go.Maps

theorem elemAp : Tryz.prog.underlying 74 = some (.slice (Tryz.prog.elem 74)) := by kernel_rfl
theorem sizeAp (W : World) : (sizeOf (Tryz.prog.elem 74)).run Tryz.prog W = .ok 1 W := by kernel_rfl
theorem slice_lA (a : Option Addr) (n cap q : Nat) (hq : q ≤ n) (W : World) : (Instr.sliceAt 74 (.slice a n cap) (some (.int .i64 (q : Int))) none none).run Tryz.prog W = .ok (.slice (subAx a cap q) (n - q) (cap - q)) W := by
  rw [run_sliceAt_slice W _ _ _ _ _ elemAp, run_slice_l W _ a n cap elemAp .i64 q (by omega) (by omega), sizeAp]
  simp [Result.andThen, sliced, subAx]
theorem append_ap (ty : TypeId) (a : Option Addr) (n c : Nat) (u : Value) (w : World) : (Builtin.append_ #[74, 22] ty #[.slice a n c, u]).run Tryz.prog w = (Builtin.append_ #[74, 74] ty #[.slice a n c, u]).run Tryz.prog w := by
  simp [Builtin.append_, run_underlying undAp, run_underlying undSt]
set_option maxRecDepth 100000 in
set_option maxHeartbeats 4000000 in
theorem insert_end {w : World} {B vb : Nat} {v : Value} {xs : List Value} {p : ByteArray} (hr : Row w B 9 v xs) (hbig : xs.length ≤ 1000000000) (hv : Arr w vb 9 [.string p]) (hB : B ≤ w.heap.size) :
    Calls Tryz.prog 129 #[v, .int .i64 (xs.length : Int), .slice (some ⟨vb, 0, none⟩) 1 1] w fun e w' => ∃ v', e = .returned v' ∧ Hid (Row w' B 9 v' (xs ++ [.string p]) ∧ w.grownBy w' v.ownBlock ∧ (v'.ownBlock = v.ownBlock ∨ v'.ownBlock = some w.heap.size)) := by
  obtain ⟨a, c, he⟩ := hr.shape
  obtain ⟨i0, hi, hz0, hz1, hz2⟩ := info_parts infoStz
  obtain ⟨v', w', hrun, h2, h3, _, h5⟩ := run_append_own_at (P := Tryz.prog) w B 74 74 9 i0 _ 1 16 undAp hi hz0 hz1 hz2 (by simp [Value.cells]) (by decide) v xs.length xs hr ⟨vb, 0, none⟩ 1 1 [.string p] (by simp) (fun j u hu => by rw [Addr.add_lit, Nat.zero_add]; exact (hv.cell j).trans hu) (fun u hu => by rw [List.mem_singleton.1 hu]; rfl) (by unfold maxLen; omega) (by omega) hB
  have hap : ∀ ty, (Builtin.append_ #[74, 22] ty #[v, .slice (some ⟨vb, 0, none⟩) 1 1]).run Tryz.prog w = .ok v' w' := fun ty => by
    rw [he, append_ap, ← he]; exact hrun
  have hsl := slice_lA a xs.length c xs.length (Nat.le_refl _)
  have HF : Hid (Row w' B 9 v' (xs ++ [.string p]) ∧ w.grownBy w' v.ownBlock ∧ (v'.ownBlock = v.ownBlock ∨ v'.ownBlock = some w.heap.size)) := hide ⟨by unfold Row; rw [List.length_append]; exact h2, h3, h5⟩
  generalize subAx a c xs.length = ax at *
  have hnb : ((xs.length : Int) == (xs.length : Int)) = true := by simp
  obtain ⟨a', n', hv'⟩ : ∃ a' c', v' = .slice a' (xs.length + 1) c' := by
    have : Row w' B 9 v' (xs ++ [.string p]) := HF.out.1
    obtain ⟨a', c', e⟩ := this.shape
    exact ⟨a', c', by rw [e, List.length_append]; rfl⟩
  subst he
  clear hrun h2 h3 h5 hi hz0 hz1 hz2 hr hv
  go_enter Tryz.func129, Tryz.ntmps129
  go_wp2_with (first
    | (at_builtin; refine Lib.wpList_append_run _ rfl _ _ _ _ rfl _ _ rfl rfl _ _ (hap _) ?_)
    | fail)
  go_ret
  exact ⟨_, rfl, hide (by have h := HF.out; rw [hv'] at h; exact h)⟩
theorem insert_calls {w : World} {B vb : Nat} {v : Value} {sl : List ByteArray} {p : ByteArray} {i : Nat} (hr : Row w B 9 v (sV sl)) (hi : i ≤ sl.length) (hbig : sl.length ≤ 1000000000) (hv : Arr w vb 9 [.string p]) (hne : v.ownBlock ≠ some vb) (hB : B ≤ w.heap.size) :
    Calls Tryz.prog 129 #[v, .int .i64 (i : Int), .slice (some ⟨vb, 0, none⟩) 1 1] w fun e w' => ∃ v', e = .returned v' ∧ Hid (Row w' B 9 v' (sV (insL sl p i)) ∧ w.grownBy w' v.ownBlock ∧ (v'.ownBlock = v.ownBlock ∨ v'.ownBlock = some w.heap.size)) := by
  have hone : ∀ u ∈ sV sl, u.oneCell' = true := str_one sl
  rw [sV_insL]
  by_cases he : i = sl.length
  · have := insert_end hr (by rw [sV_len]; exact hbig) hv hB
    rw [sV_len] at this
    rw [he]
    refine this.mono ?_
    rintro e w' ⟨v', h1, h2⟩
    refine ⟨v', h1, hide ?_⟩
    have e2 : (sV sl).take sl.length ++ (Value.string p :: (sV sl).drop sl.length) = sV sl ++ [.string p] := by
      rw [List.take_of_length_le (by rw [sV_len]; exact Nat.le_refl _), List.drop_eq_nil_of_le (by rw [sV_len]; exact Nat.le_refl _)]
    rw [e2]
    exact h2.out
  · have hlt : i < sl.length := by omega
    obtain ⟨g, c, rfl, h1, h2, _, _⟩ := hr.head (by rw [sV_len]; omega)
    rw [sV_len] at h1 hr
    rw [sV_len]
    by_cases hc : sl.length + 1 ≤ c
    · refine (insert_shift hr hone hlt hc hv (fun e => hne (by rw [e]; rfl))).mono ?_
      rintro e w' ⟨e1, e2⟩
      exact ⟨_, e1, hide ⟨e2.out.1, e2.out.2, Or.inl rfl⟩⟩
    · refine (insert_grow hr hone hlt (by omega) hbig hv hB).mono ?_
      rintro e w' ⟨G, e1, e2⟩
      have hb := e2.out.2
      exact ⟨_, e1, hide ⟨e2.out.1, ⟨hb.os, hb.tape, hb.output, hb.size, fun k hk _ => hb.block k hk⟩, Or.inr rfl⟩⟩
end Go.Proofs.YtfhfobikbfbajaaGreatDoor

namespace Go.Proofs.YtfhfobikbfbajaaGreatDoor
open Go.RowKit Go.Maps

theorem wrong_size1 {s : ByteArray} (h : wrongB s = false) : s.size ≤ 255 := by
  have := ((pl_ok (toL s)).1 (by rw [← wrong_pl]; exact h)).2.2
  rw [toL_len] at this
  exact this
theorem wrong_some {s : ByteArray} (h : wrongB s = false) : toL s ≠ [] := fun e => by
  have := ((pl_ok (toL s)).1 (by rw [← wrong_pl]; exact h)).1 [] (by rw [e]; simp [cutL])
  simp [nmL] at this
/-- The paths made so far, in a variable of the caller's. -/
structure Ma (w W : World) (g : Nat) (vm : Value) (md : List ByteArray) : Prop where
  cell : Arr W g 74 [vm]
  ap : ∃ sl, Row W w.heap.size 9 vm (sV sl) ∧ Apt sl ∧ (∀ x, x ∈ sl ↔ x ∈ md) ∧ (∀ x ∈ sl, x.size ≤ 255) ∧ sl.length = md.length
  old : Below w.heap.size w W
  new : w.heap.size ≤ g
theorem Ma.below {w W W' : World} {g : Nat} {vm : Value} {md : List ByteArray} (h : Ma w W g vm md) (hb : Below W.heap.size W W') : Ma w W' g vm md := by
  obtain ⟨sl, h1, h2⟩ := h.ap
  exact ⟨h.cell.below hb, ⟨sl, owns_below h1 hb, h2⟩, h.old.trans (hb.mono h.old.size), h.new⟩
theorem Ma.shape {w W : World} {g : Nat} {vm : Value} {md : List ByteArray} (h : Ma w W g vm md) : ∃ a c, vm = .slice a md.length c := by
  obtain ⟨sl, h1, _, _, _, h5⟩ := h.ap
  obtain ⟨a, c, e⟩ := h1.shape
  exact ⟨a, c, by rw [e, sV_len, h5]⟩
/-- Texts and such lists alone. -/
def MaT (t : TypeId) : Prop := t = 9 ∨ t = 74
set_option maxRecDepth 100000 in
set_option maxHeartbeats 4000000 in
theorem join_calls1 {w W : World} {g : Nat} {vm : Value} {md : List ByteArray} (h : Ma w W g vm md) (hl : md.length ≤ 100000000) (p : ByteArray) (hw : wrongB p = false) :
    Calls Tryz.prog 95 #[.pointer (some ⟨g, 0, none⟩), .string p] W fun e W' => e = .returned (.bool (!(clB md p))) ∧ Hid ((∃ vm', Ma w W' g vm' (if clB md p = true then md else md ++ [p])) ∧ Ch w.heap.size MaT W W') := by
  obtain ⟨cb, hcb⟩ : ∃ cb, cb = clB md p := ⟨_, rfl⟩
  obtain ⟨MD, hMD⟩ : ∃ MD, MD = if cb = true then md else md ++ [p] := ⟨_, rfl⟩
  rw [← hcb, ← hMD]
  have HMT : Hid (cb = true → MD = md) := hide (fun e => by rw [hMD, if_pos e])
  have HMF : Hid (cb = false → MD = md ++ [p]) := hide (fun e => by rw [hMD, e]; rfl)
  have HCE := hide hcb
  clear hMD
  obtain ⟨sl, hrow, hapt, hmem, hsz, hlen⟩ := id h.ap
  have hps := wrong_size1 hw
  have HB := hide h
  have hcell : W.cell? ⟨g, 0, none⟩ = some vm := h.cell.cell 0
  obtain ⟨a, c, hvm⟩ : ∃ a c, vm = .slice a sl.length c := by obtain ⟨a, c, e⟩ := hrow.shape; exact ⟨a, c, by rw [e, sV_len]⟩
  have HSE := hide (search_calls hrow.isS hapt (fun x hx => by have := hsz x hx; omega) (by omega) p (by omega))
  have HROW := hide hrow
  have HAPT := hide hapt
  have HMEM := hide hmem
  have HSZ := hide hsz
  have HLEN := hide hlen
  have HPS := hide hps
  have hpn : toL p ≠ [] := wrong_some hw
  have HPN := hide hpn
  have HCB : Hid (clB sl p = cb) := hide (by rw [hcb]; exact clB_mem hmem p)
  clear hcb
  have HL : Hid (sl.length ≤ 100000000) := hide (by omega)
  have hli : (sl.length : Int) ≤ 100000000 := by omega
  clear h hrow hapt hmem hsz hlen hps hpn hw
  subst hvm
  have HUN := hide (fun (x y : ByteArray) (W2 : World) => under_calls x y W2)
  go_enter Tryz.func95, Tryz.ntmps95
  go_wp2_with fail
  refine (unhide HSE).mono ?_
  rintro e w2 ⟨i, f, rfl, hsp, hb2⟩
  have HB2 := hide (HB.out.below hb2)
  have HROW2 := hide (owns_below HROW.out hb2)
  have hcell : w2.cell? ⟨g, 0, none⟩ = some (.slice a sl.length c) := HB2.out.cell.cell 0
  have hin : i ≤ sl.length := hsp.1
  have HCL := hide (HAPT.out.clash HPN.out hsp)
  have HINS := hide (fun hc => HAPT.out.ins HPN.out hsp hc)
  have HIS := hide (fun k (hk : k < sl.length) => by
    have h1 := (Row.isS (l := sl) HROW2.out)
    obtain ⟨a', c', hv, _, _, _, hc⟩ := h1
    cases hv
    obtain ⟨b, o, ha, hcc⟩ := hc (by omega)
    exact (⟨b, o, ha, hcc k hk⟩ : ∃ b o, a = some ⟨b, o, none⟩ ∧ w2.cell? ⟨b, o + k, none⟩ = some (.string (sl.getD k default))))
  have HC2 : Hid (Ch w.heap.size MaT W w2) := hide (Ch.of_below hb2)
  clear hb2 hsp HSE
  by_cases h1 : 0 < i
  · have hi0 : (0 : Int) < (i : Int) := by omega
    have hwi : IntKind.i64.wrap ((i : Int) - 1) = ((i - 1 : Nat) : Int) := by rw [IntKind.wrap_i64]; omega
    have him : ((i : Int) - 1) = ((i - 1 : Nat) : Int) := by omega
    obtain ⟨b1, o1, ha1, hc1⟩ := HIS.out (i - 1) (by omega)
    subst ha1
    obtain ⟨m, hm⟩ : ∃ m, m = i - 1 := ⟨_, rfl⟩
    have hml : (m : Int) < (sl.length : Int) := by omega
    rw [← hm] at hwi him hc1
    obtain ⟨s1, hs1⟩ : ∃ s, s = sl.getD m default := ⟨_, rfl⟩
    rw [← hs1] at hc1
    have HU1 := hide (HUN.out s1 p)
    have HS1 : Hid (s1 = sl.getD (i - 1) default) := hide (by rw [hs1, hm])
    obtain ⟨q1, hq1⟩ : ∃ b, b = undB s1 p := ⟨_, rfl⟩
    rw [← hq1] at HU1
    have HQ1 := hide hq1
    have H0 := hide h1
    clear hs1 hq1 hm
    cases q1 with
    | true =>
      go_wp2_with fail
      refine (unhide HU1 _).mono ?_
      rintro e w3 ⟨rfl, rfl⟩
      have HC : Hid (cb = true) := hide (by rw [← HCB.out, HCL.out]; rw [decide_eq_true H0.out, ← HS1.out, ← HQ1.out]; rfl)
      go_wp2
      go_ret
      exact ⟨by rw [HC.out]; rfl, hide ⟨⟨_, by rw [HMT.out HC.out]; exact HB2.out⟩, HC2.out⟩⟩
    | false =>
      by_cases h2 : i < sl.length
      · have hini : (i : Int) < (sl.length : Int) := by omega
        obtain ⟨b2, o2, ha2, hc2⟩ := HIS.out i h2
        cases ha2
        obtain ⟨s2, hs2⟩ : ∃ s, s = sl.getD i default := ⟨_, rfl⟩
        rw [← hs2] at hc2
        have HU2 := hide (HUN.out p s2)
        have HS2 := hide hs2
        obtain ⟨q2, hq2⟩ : ∃ b, b = undB p s2 := ⟨_, rfl⟩
        rw [← hq2] at HU2
        have HQ2 := hide hq2
        clear hs2 hq2
        cases q2 with
        | true =>
          go_wp2_with fail
          refine (unhide HU1 _).mono ?_
          rintro e w3 ⟨rfl, rfl⟩
          go_wp2_with fail
          refine (unhide HU2 _).mono ?_
          rintro e w5 ⟨rfl, rfl⟩
          have HC : Hid (cb = true) := hide (by rw [← HCB.out, HCL.out]; rw [decide_eq_true H0.out, ← HS1.out, ← HQ1.out, Bool.true_and, Bool.false_or, decide_eq_true h2, ← HS2.out, ← HQ2.out]; simp)
          go_wp2
          go_ret
          exact ⟨by rw [HC.out]; rfl, hide ⟨⟨_, by rw [HMT.out HC.out]; exact HB2.out⟩, HC2.out⟩⟩
        | false =>
          go_wp2_with fail
          refine (unhide HU1 _).mono ?_
          rintro e w3 ⟨rfl, rfl⟩
          go_wp2_with fail
          refine (unhide HU2 _).mono ?_
          rintro e w5 ⟨rfl, rfl⟩
          have HIC : Hid (Calls Tryz.prog 129 #[.slice (some ⟨b1, o1, none⟩) sl.length c, .int .i64 (i : Int), .slice (some ⟨w5.heap.size, 0, none⟩) 1 1] (w5.alloc (.cells #[.string p] 9)) fun e w' => ∃ v', e = .returned v' ∧ Hid (Row w' w.heap.size 9 v' (sV (insL sl p i)) ∧ (w5.alloc (.cells #[.string p] 9)).grownBy w' (Value.slice (some ⟨b1, o1, none⟩) sl.length c).ownBlock ∧ (v'.ownBlock = (Value.slice (some ⟨b1, o1, none⟩) sl.length c).ownBlock ∨ v'.ownBlock = some (w5.alloc (.cells #[.string p] 9)).heap.size))) := hide (insert_calls (owns_below HROW2.out (jalloc_below w5 (.cells #[.string p] 9))) hin (by have := HL.out; omega) (Arr.new w5 [.string p] 9) (fun e => by have := (World.ownsRow.lt HROW2.out _ e).2; omega) (by have := HB2.out.old.size; simp; omega))
          have HC : Hid (cb = false) := hide (by rw [← HCB.out, HCL.out]; rw [decide_eq_true H0.out, ← HS1.out, ← HQ1.out, Bool.true_and, Bool.false_or, decide_eq_true h2, ← HS2.out, ← HQ2.out]; simp)
          go_wp2_with fail
          refine (unhide HIC).mono ?_
          rintro e w4 ⟨v4, rfl, HX⟩
          have hA4 : Arr w4 g 74 [.slice (some ⟨b1, o1, none⟩) sl.length c] := by
            refine (HB2.out.cell.below (jalloc_below w5 (.cells #[.string p] 9))).keep (HX.out.2.1.block g (by simp; have := HB2.out.cell.lt; omega) (fun e => ?_))
            rcases HROW2.out.2 with ⟨q, _⟩ | ⟨g', cap, cur, q, _, hgg, _⟩
            · rw [q] at e; cases e
            · rw [q] at e
              have e : g = g' := by injection e
              subst e
              have hc := HB2.out.cell
              unfold Arr at hc
              rw [hgg] at hc
              injection hc with hc
              injection hc with _ hc
              exact absurd hc (by decide)
          have hc4 := hA4.cell 0
          have hf4 := hA4.frozen 0
          have hone : v4.oneCell' = true := by
            have := HX.out.1
            obtain ⟨a4, c4, e⟩ := Row.shape this
            rw [e]; rfl
          obtain ⟨a4, c4, hv4⟩ : ∃ a4 c4, v4 = .slice a4 (sl.length + 1) c4 := by
            have := HX.out.1
            obtain ⟨a4, c4, e⟩ := Row.shape this
            exact ⟨a4, c4, by rw [e, sV_len, insL_len hin]⟩
          subst hv4
          have HCH : Hid (Ch w.heap.size MaT W (w4.setCell ⟨g, 0, none⟩ (.slice a4 (sl.length + 1) c4))) := hide (by
            have h1 : Ch w.heap.size MaT w5 (w5.alloc (.cells #[.string p] 9)) := Ch.of_below (jalloc_below w5 _)
            have h2 : Ch w.heap.size MaT (w5.alloc (.cells #[.string p] 9)) w4 := Ch.of_owns (owns_below HROW2.out (jalloc_below w5 (.cells #[.string p] 9))) (Nat.le_refl _) HX.out.2.1 (Or.inl rfl)
            have h3 : Ch w.heap.size MaT w4 (w4.setCell ⟨g, 0, none⟩ (.slice a4 (sl.length + 1) c4)) := Ch.of_grown (pgrown_put w4 g 0 _) HB2.out.new hA4 (Or.inr rfl)
            exact ((HC2.out.trans h1).trans h2).trans h3)
          have HFIN : Hid (Ma w (w4.setCell ⟨g, 0, none⟩ (.slice a4 (sl.length + 1) c4)) g (.slice a4 (sl.length + 1) c4) (md ++ [p])) := hide (by
            have hs := hA4.set 0 (.slice a4 (sl.length + 1) c4)
            have hgB : w.heap.size ≤ g := HB2.out.new
            refine ⟨hs, ⟨insL sl p i, ?_, HINS.out (by rw [HCB.out]; exact HC.out), fun x => ?_, fun x hx => ?_, ?_⟩, ?_, hgB⟩
            · refine World.ownsRow.kept HX.out.1 (row := some g) (pgrown_put w4 g 0 _) ?_
              refine Or.inr fun e => ?_
              rcases HX.out.1.2 with ⟨q, _⟩ | ⟨g', cap, cur, q, _, hgg, _⟩
              · rw [q] at e; cases e
              · rw [q] at e
                have e : g' = g := by injection e
                subst e
                unfold Arr at hA4
                rw [hgg] at hA4
                injection hA4 with hc
                injection hc with _ hc
                exact absurd hc (by decide)
            · rw [insL_mem, List.mem_append, List.mem_append, HMEM.out]
            · rcases List.mem_append.1 ((insL_mem x).1 hx) with q | q
              · exact HSZ.out x q
              · rw [List.mem_singleton.1 q]; exact HPS.out
            · rw [insL_len hin, List.length_append, HLEN.out]; rfl
            · have hb4 : Below w.heap.size w w4 := by
                have h1 : Below w.heap.size w (w5.alloc (.cells #[.string p] 9)) := HB2.out.old.trans ((jalloc_below w5 _).mono HB2.out.old.size)
                refine h1.grown HX.out.2.1 h1.size (fun j hj => ?_)
                exact (World.ownsRow.lt HROW2.out _ hj).1
              exact hb4.setCell (p := ⟨g, 0, none⟩) hgB _)
          go_wp2
          go_ret
          exact ⟨by rw [HC.out]; rfl, hide ⟨⟨_, by rw [HMF.out HC.out]; exact HFIN.out⟩, HCH.out⟩⟩
      · have hini : ¬ (i : Int) < (sl.length : Int) := by omega
        have hind : decide ((i : Int) < (sl.length : Int)) = false := decide_eq_false hini
        go_wp2_with fail
        refine (unhide HU1 _).mono ?_
        rintro e w3 ⟨rfl, rfl⟩
        have HIC : Hid (Calls Tryz.prog 129 #[.slice (some ⟨b1, o1, none⟩) sl.length c, .int .i64 (i : Int), .slice (some ⟨w3.heap.size, 0, none⟩) 1 1] (w3.alloc (.cells #[.string p] 9)) fun e w' => ∃ v', e = .returned v' ∧ Hid (Row w' w.heap.size 9 v' (sV (insL sl p i)) ∧ (w3.alloc (.cells #[.string p] 9)).grownBy w' (Value.slice (some ⟨b1, o1, none⟩) sl.length c).ownBlock ∧ (v'.ownBlock = (Value.slice (some ⟨b1, o1, none⟩) sl.length c).ownBlock ∨ v'.ownBlock = some (w3.alloc (.cells #[.string p] 9)).heap.size))) := hide (insert_calls (owns_below HROW2.out (jalloc_below w3 (.cells #[.string p] 9))) hin (by have := HL.out; omega) (Arr.new w3 [.string p] 9) (fun e => by have := (World.ownsRow.lt HROW2.out _ e).2; omega) (by have := HB2.out.old.size; simp; omega))
        have HC : Hid (cb = false) := hide (by rw [← HCB.out, HCL.out]; rw [decide_eq_true H0.out, ← HS1.out, ← HQ1.out, Bool.true_and, Bool.false_or, decide_eq_false h2]; simp)
        go_wp2_with fail
        refine (unhide HIC).mono ?_
        rintro e w4 ⟨v4, rfl, HX⟩
        have hA4 : Arr w4 g 74 [.slice (some ⟨b1, o1, none⟩) sl.length c] := by
          refine (HB2.out.cell.below (jalloc_below w3 (.cells #[.string p] 9))).keep (HX.out.2.1.block g (by simp; have := HB2.out.cell.lt; omega) (fun e => ?_))
          rcases HROW2.out.2 with ⟨q, _⟩ | ⟨g', cap, cur, q, _, hgg, _⟩
          · rw [q] at e; cases e
          · rw [q] at e
            have e : g = g' := by injection e
            subst e
            have hc := HB2.out.cell
            unfold Arr at hc
            rw [hgg] at hc
            injection hc with hc
            injection hc with _ hc
            exact absurd hc (by decide)
        have hc4 := hA4.cell 0
        have hf4 := hA4.frozen 0
        have hone : v4.oneCell' = true := by
          have := HX.out.1
          obtain ⟨a4, c4, e⟩ := Row.shape this
          rw [e]; rfl
        obtain ⟨a4, c4, hv4⟩ : ∃ a4 c4, v4 = .slice a4 (sl.length + 1) c4 := by
          have := HX.out.1
          obtain ⟨a4, c4, e⟩ := Row.shape this
          exact ⟨a4, c4, by rw [e, sV_len, insL_len hin]⟩
        subst hv4
        have HCH : Hid (Ch w.heap.size MaT W (w4.setCell ⟨g, 0, none⟩ (.slice a4 (sl.length + 1) c4))) := hide (by
          have h1 : Ch w.heap.size MaT w3 (w3.alloc (.cells #[.string p] 9)) := Ch.of_below (jalloc_below w3 _)
          have h2 : Ch w.heap.size MaT (w3.alloc (.cells #[.string p] 9)) w4 := Ch.of_owns (owns_below HROW2.out (jalloc_below w3 (.cells #[.string p] 9))) (Nat.le_refl _) HX.out.2.1 (Or.inl rfl)
          have h3 : Ch w.heap.size MaT w4 (w4.setCell ⟨g, 0, none⟩ (.slice a4 (sl.length + 1) c4)) := Ch.of_grown (pgrown_put w4 g 0 _) HB2.out.new hA4 (Or.inr rfl)
          exact ((HC2.out.trans h1).trans h2).trans h3)
        have HFIN : Hid (Ma w (w4.setCell ⟨g, 0, none⟩ (.slice a4 (sl.length + 1) c4)) g (.slice a4 (sl.length + 1) c4) (md ++ [p])) := hide (by
          have hs := hA4.set 0 (.slice a4 (sl.length + 1) c4)
          have hgB : w.heap.size ≤ g := HB2.out.new
          refine ⟨hs, ⟨insL sl p i, ?_, HINS.out (by rw [HCB.out]; exact HC.out), fun x => ?_, fun x hx => ?_, ?_⟩, ?_, hgB⟩
          · refine World.ownsRow.kept HX.out.1 (row := some g) (pgrown_put w4 g 0 _) ?_
            refine Or.inr fun e => ?_
            rcases HX.out.1.2 with ⟨q, _⟩ | ⟨g', cap, cur, q, _, hgg, _⟩
            · rw [q] at e; cases e
            · rw [q] at e
              have e : g' = g := by injection e
              subst e
              unfold Arr at hA4
              rw [hgg] at hA4
              injection hA4 with hc
              injection hc with _ hc
              exact absurd hc (by decide)
          · rw [insL_mem, List.mem_append, List.mem_append, HMEM.out]
          · rcases List.mem_append.1 ((insL_mem x).1 hx) with q | q
            · exact HSZ.out x q
            · rw [List.mem_singleton.1 q]; exact HPS.out
          · rw [insL_len hin, List.length_append, HLEN.out]; rfl
          · have hb4 : Below w.heap.size w w4 := by
              have h1 : Below w.heap.size w (w3.alloc (.cells #[.string p] 9)) := HB2.out.old.trans ((jalloc_below w3 _).mono HB2.out.old.size)
              refine h1.grown HX.out.2.1 h1.size (fun j hj => ?_)
              exact (World.ownsRow.lt HROW2.out _ hj).1
            exact hb4.setCell (p := ⟨g, 0, none⟩) hgB _)
        go_wp2
        go_ret
        exact ⟨by rw [HC.out]; rfl, hide ⟨⟨_, by rw [HMF.out HC.out]; exact HFIN.out⟩, HCH.out⟩⟩
  · have hi0 : ¬ (0 : Int) < (i : Int) := by omega
    have hid0 : decide ((0 : Int) < (i : Int)) = false := decide_eq_false hi0
    by_cases h2 : i < sl.length
    · have hini : (i : Int) < (sl.length : Int) := by omega
      obtain ⟨b2, o2, ha2, hc2⟩ := HIS.out i h2
      subst ha2
      obtain ⟨s2, hs2⟩ : ∃ s, s = sl.getD i default := ⟨_, rfl⟩
      rw [← hs2] at hc2
      have HU2 := hide (HUN.out p s2)
      have HS2 := hide hs2
      obtain ⟨q2, hq2⟩ : ∃ b, b = undB p s2 := ⟨_, rfl⟩
      rw [← hq2] at HU2
      have HQ2 := hide hq2
      clear hs2 hq2
      cases q2 with
      | true =>
        go_wp2_with fail
        refine (unhide HU2 _).mono ?_
        rintro e w5 ⟨rfl, rfl⟩
        have HC : Hid (cb = true) := hide (by rw [← HCB.out, HCL.out]; rw [decide_eq_false h1, Bool.false_and, Bool.false_or, decide_eq_true h2, ← HS2.out, ← HQ2.out]; simp)
        go_wp2
        go_ret
        exact ⟨by rw [HC.out]; rfl, hide ⟨⟨_, by rw [HMT.out HC.out]; exact HB2.out⟩, HC2.out⟩⟩
      | false =>
        go_wp2_with fail
        refine (unhide HU2 _).mono ?_
        rintro e w5 ⟨rfl, rfl⟩
        have HIC : Hid (Calls Tryz.prog 129 #[.slice (some ⟨b2, o2, none⟩) sl.length c, .int .i64 (i : Int), .slice (some ⟨w5.heap.size, 0, none⟩) 1 1] (w5.alloc (.cells #[.string p] 9)) fun e w' => ∃ v', e = .returned v' ∧ Hid (Row w' w.heap.size 9 v' (sV (insL sl p i)) ∧ (w5.alloc (.cells #[.string p] 9)).grownBy w' (Value.slice (some ⟨b2, o2, none⟩) sl.length c).ownBlock ∧ (v'.ownBlock = (Value.slice (some ⟨b2, o2, none⟩) sl.length c).ownBlock ∨ v'.ownBlock = some (w5.alloc (.cells #[.string p] 9)).heap.size))) := hide (insert_calls (owns_below HROW2.out (jalloc_below w5 (.cells #[.string p] 9))) hin (by have := HL.out; omega) (Arr.new w5 [.string p] 9) (fun e => by have := (World.ownsRow.lt HROW2.out _ e).2; omega) (by have := HB2.out.old.size; simp; omega))
        have HC : Hid (cb = false) := hide (by rw [← HCB.out, HCL.out]; rw [decide_eq_false h1, Bool.false_and, Bool.false_or, decide_eq_true h2, ← HS2.out, ← HQ2.out]; simp)
        go_wp2_with fail
        refine (unhide HIC).mono ?_
        rintro e w4 ⟨v4, rfl, HX⟩
        have hA4 : Arr w4 g 74 [.slice (some ⟨b2, o2, none⟩) sl.length c] := by
          refine (HB2.out.cell.below (jalloc_below w5 (.cells #[.string p] 9))).keep (HX.out.2.1.block g (by simp; have := HB2.out.cell.lt; omega) (fun e => ?_))
          rcases HROW2.out.2 with ⟨q, _⟩ | ⟨g', cap, cur, q, _, hgg, _⟩
          · rw [q] at e; cases e
          · rw [q] at e
            have e : g = g' := by injection e
            subst e
            have hc := HB2.out.cell
            unfold Arr at hc
            rw [hgg] at hc
            injection hc with hc
            injection hc with _ hc
            exact absurd hc (by decide)
        have hc4 := hA4.cell 0
        have hf4 := hA4.frozen 0
        have hone : v4.oneCell' = true := by
          have := HX.out.1
          obtain ⟨a4, c4, e⟩ := Row.shape this
          rw [e]; rfl
        obtain ⟨a4, c4, hv4⟩ : ∃ a4 c4, v4 = .slice a4 (sl.length + 1) c4 := by
          have := HX.out.1
          obtain ⟨a4, c4, e⟩ := Row.shape this
          exact ⟨a4, c4, by rw [e, sV_len, insL_len hin]⟩
        subst hv4
        have HCH : Hid (Ch w.heap.size MaT W (w4.setCell ⟨g, 0, none⟩ (.slice a4 (sl.length + 1) c4))) := hide (by
          have h1 : Ch w.heap.size MaT w5 (w5.alloc (.cells #[.string p] 9)) := Ch.of_below (jalloc_below w5 _)
          have h2 : Ch w.heap.size MaT (w5.alloc (.cells #[.string p] 9)) w4 := Ch.of_owns (owns_below HROW2.out (jalloc_below w5 (.cells #[.string p] 9))) (Nat.le_refl _) HX.out.2.1 (Or.inl rfl)
          have h3 : Ch w.heap.size MaT w4 (w4.setCell ⟨g, 0, none⟩ (.slice a4 (sl.length + 1) c4)) := Ch.of_grown (pgrown_put w4 g 0 _) HB2.out.new hA4 (Or.inr rfl)
          exact ((HC2.out.trans h1).trans h2).trans h3)
        have HFIN : Hid (Ma w (w4.setCell ⟨g, 0, none⟩ (.slice a4 (sl.length + 1) c4)) g (.slice a4 (sl.length + 1) c4) (md ++ [p])) := hide (by
          have hs := hA4.set 0 (.slice a4 (sl.length + 1) c4)
          have hgB : w.heap.size ≤ g := HB2.out.new
          refine ⟨hs, ⟨insL sl p i, ?_, HINS.out (by rw [HCB.out]; exact HC.out), fun x => ?_, fun x hx => ?_, ?_⟩, ?_, hgB⟩
          · refine World.ownsRow.kept HX.out.1 (row := some g) (pgrown_put w4 g 0 _) ?_
            refine Or.inr fun e => ?_
            rcases HX.out.1.2 with ⟨q, _⟩ | ⟨g', cap, cur, q, _, hgg, _⟩
            · rw [q] at e; cases e
            · rw [q] at e
              have e : g' = g := by injection e
              subst e
              unfold Arr at hA4
              rw [hgg] at hA4
              injection hA4 with hc
              injection hc with _ hc
              exact absurd hc (by decide)
          · rw [insL_mem, List.mem_append, List.mem_append, HMEM.out]
          · rcases List.mem_append.1 ((insL_mem x).1 hx) with q | q
            · exact HSZ.out x q
            · rw [List.mem_singleton.1 q]; exact HPS.out
          · rw [insL_len hin, List.length_append, HLEN.out]; rfl
          · have hb4 : Below w.heap.size w w4 := by
              have h1 : Below w.heap.size w (w5.alloc (.cells #[.string p] 9)) := HB2.out.old.trans ((jalloc_below w5 _).mono HB2.out.old.size)
              refine h1.grown HX.out.2.1 h1.size (fun j hj => ?_)
              exact (World.ownsRow.lt HROW2.out _ hj).1
            exact hb4.setCell (p := ⟨g, 0, none⟩) hgB _)
        go_wp2
        go_ret
        exact ⟨by rw [HC.out]; rfl, hide ⟨⟨_, by rw [HMF.out HC.out]; exact HFIN.out⟩, HCH.out⟩⟩
    · have hini : ¬ (i : Int) < (sl.length : Int) := by omega
      have hind : decide ((i : Int) < (sl.length : Int)) = false := decide_eq_false hini
      have HIC : Hid (Calls Tryz.prog 129 #[.slice a sl.length c, .int .i64 (i : Int), .slice (some ⟨w2.heap.size, 0, none⟩) 1 1] (w2.alloc (.cells #[.string p] 9)) fun e w' => ∃ v', e = .returned v' ∧ Hid (Row w' w.heap.size 9 v' (sV (insL sl p i)) ∧ (w2.alloc (.cells #[.string p] 9)).grownBy w' (Value.slice a sl.length c).ownBlock ∧ (v'.ownBlock = (Value.slice a sl.length c).ownBlock ∨ v'.ownBlock = some (w2.alloc (.cells #[.string p] 9)).heap.size))) := hide (insert_calls (owns_below HROW2.out (jalloc_below w2 (.cells #[.string p] 9))) hin (by have := HL.out; omega) (Arr.new w2 [.string p] 9) (fun e => by have := (World.ownsRow.lt HROW2.out _ e).2; omega) (by have := HB2.out.old.size; simp; omega))
      have HC : Hid (cb = false) := hide (by rw [← HCB.out, HCL.out]; rw [decide_eq_false h1, Bool.false_and, Bool.false_or, decide_eq_false h2]; simp)
      go_wp2_with fail
      refine (unhide HIC).mono ?_
      rintro e w4 ⟨v4, rfl, HX⟩
      have hA4 : Arr w4 g 74 [.slice a sl.length c] := by
        refine (HB2.out.cell.below (jalloc_below w2 (.cells #[.string p] 9))).keep (HX.out.2.1.block g (by simp; have := HB2.out.cell.lt; omega) (fun e => ?_))
        rcases HROW2.out.2 with ⟨q, _⟩ | ⟨g', cap, cur, q, _, hgg, _⟩
        · rw [q] at e; cases e
        · rw [q] at e
          have e : g = g' := by injection e
          subst e
          have hc := HB2.out.cell
          unfold Arr at hc
          rw [hgg] at hc
          injection hc with hc
          injection hc with _ hc
          exact absurd hc (by decide)
      have hc4 := hA4.cell 0
      have hf4 := hA4.frozen 0
      have hone : v4.oneCell' = true := by
        have := HX.out.1
        obtain ⟨a4, c4, e⟩ := Row.shape this
        rw [e]; rfl
      obtain ⟨a4, c4, hv4⟩ : ∃ a4 c4, v4 = .slice a4 (sl.length + 1) c4 := by
        have := HX.out.1
        obtain ⟨a4, c4, e⟩ := Row.shape this
        exact ⟨a4, c4, by rw [e, sV_len, insL_len hin]⟩
      subst hv4
      have HCH : Hid (Ch w.heap.size MaT W (w4.setCell ⟨g, 0, none⟩ (.slice a4 (sl.length + 1) c4))) := hide (by
        have h1 : Ch w.heap.size MaT w2 (w2.alloc (.cells #[.string p] 9)) := Ch.of_below (jalloc_below w2 _)
        have h2 : Ch w.heap.size MaT (w2.alloc (.cells #[.string p] 9)) w4 := Ch.of_owns (owns_below HROW2.out (jalloc_below w2 (.cells #[.string p] 9))) (Nat.le_refl _) HX.out.2.1 (Or.inl rfl)
        have h3 : Ch w.heap.size MaT w4 (w4.setCell ⟨g, 0, none⟩ (.slice a4 (sl.length + 1) c4)) := Ch.of_grown (pgrown_put w4 g 0 _) HB2.out.new hA4 (Or.inr rfl)
        exact ((HC2.out.trans h1).trans h2).trans h3)
      have HFIN : Hid (Ma w (w4.setCell ⟨g, 0, none⟩ (.slice a4 (sl.length + 1) c4)) g (.slice a4 (sl.length + 1) c4) (md ++ [p])) := hide (by
        have hs := hA4.set 0 (.slice a4 (sl.length + 1) c4)
        have hgB : w.heap.size ≤ g := HB2.out.new
        refine ⟨hs, ⟨insL sl p i, ?_, HINS.out (by rw [HCB.out]; exact HC.out), fun x => ?_, fun x hx => ?_, ?_⟩, ?_, hgB⟩
        · refine World.ownsRow.kept HX.out.1 (row := some g) (pgrown_put w4 g 0 _) ?_
          refine Or.inr fun e => ?_
          rcases HX.out.1.2 with ⟨q, _⟩ | ⟨g', cap, cur, q, _, hgg, _⟩
          · rw [q] at e; cases e
          · rw [q] at e
            have e : g' = g := by injection e
            subst e
            unfold Arr at hA4
            rw [hgg] at hA4
            injection hA4 with hc
            injection hc with _ hc
            exact absurd hc (by decide)
        · rw [insL_mem, List.mem_append, List.mem_append, HMEM.out]
        · rcases List.mem_append.1 ((insL_mem x).1 hx) with q | q
          · exact HSZ.out x q
          · rw [List.mem_singleton.1 q]; exact HPS.out
        · rw [insL_len hin, List.length_append, HLEN.out]; rfl
        · have hb4 : Below w.heap.size w w4 := by
            have h1 : Below w.heap.size w (w2.alloc (.cells #[.string p] 9)) := HB2.out.old.trans ((jalloc_below w2 _).mono HB2.out.old.size)
            refine h1.grown HX.out.2.1 h1.size (fun j hj => ?_)
            exact (World.ownsRow.lt HROW2.out _ hj).1
          exact hb4.setCell (p := ⟨g, 0, none⟩) hgB _)
      go_wp2
      go_ret
      exact ⟨by rw [HC.out]; rfl, hide ⟨⟨_, by rw [HMF.out HC.out]; exact HFIN.out⟩, HCH.out⟩⟩
end Go.Proofs.YtfhfobikbfbajaaGreatDoor
