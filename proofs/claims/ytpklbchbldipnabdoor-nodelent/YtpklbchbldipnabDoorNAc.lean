/- reader.directory, Decode. -/
import Derived.Test.YtpklbchbldipnabDoorNAb
namespace Go.Proofs.YtpklbchbldipnabDoor
open Go.RowKit Go.Maps

theorem fold_at : ∀ (cs : List Value) (k : Nat) (z : Array Value), k + cs.length ≤ z.size → ((cs.zipIdx k).foldl (fun a p => a.setIfInBounds (0 + p.2) p.1) z).size = z.size ∧ ∀ q, ((cs.zipIdx k).foldl (fun a p => a.setIfInBounds (0 + p.2) p.1) z)[q]? = if k ≤ q ∧ q < k + cs.length then cs[q - k]? else z[q]?
  | [], k, z, _ => ⟨rfl, fun q => by rw [if_neg (by rw [List.length_nil]; omega)]; rfl⟩
  | c :: t, k, z, h => by
    simp only [List.length_cons] at h
    obtain ⟨h1, h2⟩ := fold_at t (k + 1) (z.setIfInBounds (0 + k) c) (by simp; omega)
    rw [List.zipIdx_cons, List.foldl_cons]
    refine ⟨by rw [h1]; simp, fun q => ?_⟩
    rw [h2 q]
    by_cases hq : q = k
    · subst hq
      have hqs : q < z.size := by omega
      rw [if_neg (by omega), if_pos (by simp), Nat.sub_self]
      simp [hqs]
    · by_cases hc : k + 1 ≤ q ∧ q < k + 1 + t.length
      · rw [if_pos hc, if_pos (by simp; omega), show q - k = (q - (k + 1)) + 1 by omega]
        simp
      · rw [if_neg hc, if_neg (by simp; omega), Array.getElem?_setIfInBounds_ne (by omega)]
theorem fold_all (cs : List Value) (z : Array Value) (h : z.size = cs.length) : cs.toArray.zipIdx.foldl (fun a p => a.setIfInBounds (0 + p.2) p.1) z = cs.toArray := by
  have hf := fold_at cs 0 z (by omega)
  have e : cs.toArray.zipIdx.foldl (fun a p => a.setIfInBounds (0 + p.2) p.1) z = (cs.zipIdx 0).foldl (fun a p => a.setIfInBounds (0 + p.2) p.1) z := by
    rw [← Array.foldl_toList]
    simp
  rw [e]
  apply Array.ext_getElem?
  intro q
  rw [hf.2 q]
  by_cases hq : q < cs.length
  · rw [if_pos (by omega)]; simp
  · rw [if_neg (by omega), Array.getElem?_eq_none (by omega), Array.getElem?_eq_none (by simpa using hq)]
theorem build_en {cs : List Value} (hl : cs.length = 68) (W : World) : (Instr.buildSlice 22 1 #[(0, .agg cs.toArray)]).run Tryd.prog W = .ok (.slice (some ⟨W.heap.size, 0, none⟩) 1 1) (W.alloc (.cells cs.toArray 38)) := by
  obtain ⟨i0, hi0, hz0, hz1, hz2⟩ := info_parts infoEn
  have hzl : z68.toArray.size = 68 := by rw [List.size_toArray, z68_len]
  generalize z68.toArray = zz at hz0 hzl
  have hzero : (zeroValue 38).run Tryd.prog W = .ok (.agg zz) W := by
    simp [zeroValue, typeInfo, hi0, hz0]
  have hsize : (sizeOf 38).run Tryd.prog W = .ok 68 W := by
    simp [sizeOf, typeInfo, hi0, hz1]
  have hfill : ∀ z : Array Value, z.size = 68 → Instr.fill (fun i => some (i * 68, 68)) z [(0, .agg cs.toArray)] = some cs.toArray := fun z hz => by
    have h1 : (Value.agg cs.toArray).cells = cs.toArray := rfl
    unfold Instr.fill
    simp only [h1, Nat.zero_mul]
    rw [if_neg (by simp [hl, hz])]
    rw [fold_all cs z (by omega)]
    rfl
  have hms : ((Array.range (1 * 68)).map (zz[· % zz.size]!)).size = 68 := by simp
  unfold Instr.buildSlice
  rw [Sem.run_bind, run_underlying Tryd.underlying22 W]
  simp only [Result.andThen_ok, Sem.run_bind, hsize]
  rw [if_neg (by decide), if_neg (by decide), Sem.run_bind, hzero, Result.andThen_ok, Sem.run_bind, Sem.run_pure, Result.andThen_ok]
  have hc : (Value.agg zz).cells = zz := rfl
  rw [hc]
  generalize (Array.range (1 * 68)).map (fun x => zz[x % zz.size]!) = z2 at hms
  rw [hfill z2 hms]
  rfl
section
variable {ops : Array Oper} {rest : List Oper} {o : Oper} {a : Act} {Q : Exit → Act → World → Prop} {w : World}
theorem wpList_buildEn (hgd : o.guard = none) (x : Operand) (ho : o.op = .buildSlice 22 1 #[(0, x)]) {cs : List Value} (hx : a.eval x = .agg cs.toArray) (hl : cs.length = 68)
    (hk : wpList Tryd.prog ops Q rest (a.put o.dst (.slice (some ⟨w.heap.size, 0, none⟩) 1 1)) (w.alloc (.cells cs.toArray 38))) : wpList Tryd.prog ops Q (o :: rest) a w := by
  refine wpList_plain hgd fun K hK => ?_
  unfold Oper.wp execOp
  simp only [ho, List.map_toArray, List.map_cons, List.map_nil, hx, Sem.run_bind, build_en hl w, Result.andThen_ok, Sem.run_pure]
  exact hK _ _ hk
end
theorem demand_enter (v u : Value) (W : World) : (callFunc 57 #[v, u]).run Tryd.prog W = .ok (.enter 57 #[v, u]) W := by kernel_rfl
section
variable {ops : Array Oper} {o : Oper} {a : Act} {Q : Exit → Act → World → Prop} {w : World} {K : Act → World → Prop} {E : Prop}
/-- A call that gives up. -/
theorem step_call2P (hw : Region.wanted o (yielded ops a.tmps) = true) (f : Nat) (hf : ∀ (v u : Value) (W : World), (callFunc f #[v, u]).run Tryd.prog W = .ok (.enter f #[v, u]) W) (x y : Operand) (ts : Array TypeId) (ho : o.op = .call { callee := .value (.func f), args := #[x, y], argTypes := ts }) {v u : Value} (hx : a.eval x = v) (hy : a.eval y = u)
    {Post : Ending → World → Prop} (hc : Calls Tryd.prog f #[v, u] w Post) (hk : ∀ e w2, Post e w2 → ∃ ch, e = .panicked ch ∧ Q (.panic ch) a w2) :
    if Region.wanted o (yielded ops a.tmps) = true then Oper.wp Tryd.prog o a w K Q else E := by
  rw [if_pos hw]
  have hrun : (execOp a.eval o).run Tryd.prog w = .ok (.enter f #[v, u]) w := by
    have h1 := hf v u w
    unfold execOp
    have hfv : a.eval (.func f) = .func (.func f) #[] #[] := rfl
    simp [ho, hx, hy, hfv, resolve, invoke, Deferred.ofValue, h1]
  unfold Oper.wp
  rw [hrun]
  refine hc.mono ?_
  intro e w2 hp
  obtain ⟨ch, rfl, hK⟩ := hk e w2 hp
  exact hK
end
/-- A literal of entries. -/
theorem isEn_lit (w : World) (l : List Ent) (hok : ∀ e ∈ l, EnOk e) (hl : l.length ≤ 1000000) : IsEn (w.alloc (.cells (ensV l).toArray 38)) (.slice (some ⟨w.heap.size, 0, none⟩) l.length l.length) l := by
  refine ⟨hok, _, _, rfl, Nat.le_refl _, by omega, fun h => (by cases h), fun _ => ⟨w.heap.size, 0, rfl, fun j hj k v hv => ?_⟩⟩
  have hk : k < 68 := by
    have := (List.getElem?_eq_some_iff.1 hv).1
    rw [enV_len (en_get (P := EnOk) hok hj).ok] at this
    exact this
  have e := ensV_at hok hj hk
  rw [hv] at e
  have := Arr.cell (Arr.new w (ensV l) 38) (j * 68 + k)
  rw [e] at this
  rw [Nat.zero_add]
  exact this
theorem isEn_one (w : World) (x : Ent) (hok : EnOk x) : IsEn (w.alloc (.cells (enV x).toArray 38)) (.slice (some ⟨w.heap.size, 0, none⟩) 1 1) [x] := by
  have := isEn_lit w [x] (by simpa using hok) (by simp)
  simpa [ensV] using this
theorem decE_ok {nb : List Int → Bool} {ah : Option (List Int)} {b : List Int} (hb : Byt b) (hnb : ∀ x, nb x = true → x.length ≤ 64) (h : (decE nb ah b).2.2 = 0) : EnOk (decE nb ah b).1 := by
  have h1 := decE_one (e := (decE nb ah b).1) (r := (decE nb ah b).2.1) hb (by rw [← h])
  have h2 := chk1_ok h1.2.2
  have h3 := h2.2.1
  unfold sndE at h3
  obtain ⟨a1, a2, a3, a4⟩ := of_decide_eq_true (Bool.and_eq_true_iff.1 h3).1
  exact ⟨h1.2.1, by have := hnb _ h2.1; omega, by omega, by omega, by split at a4 <;> omega⟩
theorem decF_step {nb : List Int → Bool} {k : Nat} {ah : Option (List Int)} {l : List Ent} {b : List Int} : decF nb (k + 1) ah l b = if (decE nb ah b).2.2 ≠ 0 then ([], (decE nb ah b).2.2) else decF nb k (some (decE nb ah b).1.nm) (l ++ [(decE nb ah b).1]) (decE nb ah b).2.1 := rfl
theorem ahN_snoc (l : List Ent) (x : Ent) {n : Nat} (h : l.length = n) : ahN (l ++ [x]) (n + 1) = some x.nm := by
  subst h
  rw [ahN_succ, List.getD_eq_getElem?_getD, List.getElem?_append_right (Nat.le_refl _)]
  simp
set_option maxRecDepth 100000 in
set_option maxHeartbeats 4000000 in
theorem directory_walk {w W : World} {g n c : Nat} {a : Option Addr} {xs : List Int} (hr : Rdr w W g (.slice a n c) 0) (hb : IsB w (.slice a n c) xs) (hnl : n ≤ 1048576) :
    Calls Tryd.prog 37 #[.pointer (some ⟨g, 0, none⟩)] W fun e w' => W.grownBy w' (some g) ∧ ((decL nbL xs).2 = 0 → ∃ a' n' c', e = .returned (.slice a' n' c') ∧ OwnE w' W.heap.size (.slice a' n' c') (decL nbL xs).1) ∧ ((decL nbL xs).2 ≠ 0 → e = gaveUp (decL nbL xs).2) := by
  have hn := hb.lenEq
  have hbt : Byt xs := hb.mem
  have hgl := hr.blk.lt
  obtain ⟨D, hD⟩ : ∃ D, decL nbL xs = D := ⟨_, rfl⟩
  rw [hD]
  have HD : Hid (D = if xs.headD 0 ≠ 1 then ([], 80) else if (rU 0 0 xs.tail).2.2 ≠ 0 then ([], 80) else if 1024 < (rU 0 0 xs.tail).1 then ([], 82) else decF nbL (rU 0 0 xs.tail).1.toNat none [] (xs.tail.drop (rU 0 0 xs.tail).2.1)) := by
    show _ = _
    rw [← hD]
    unfold decL
    rw [if_neg (by omega)]
  have HBT := hide hbt
  have HB := hide hb
  have HN := hide hn
  have HR := hide hr
  have HGL := hide hgl
  have ht : xs.tail = xs.drop 1 := by cases xs <;> rfl
  rw [ht] at HD
  clear hr hb hD hbt hgl ht hn
  by_cases h1 : 0 + 1 ≤ n
  · have hM : leN ((xs.drop 0).take 1) = xs.headD 0 := by
      rw [List.drop_zero]
      have := HN.out
      cases xs with
      | nil => simp at this; omega
      | cons c t => simp [leN]
    have HNO := hide (number_ok HR.out HB.out (size := 1) (by decide) (by decide) h1)
    rw [hM] at HNO
    by_cases hm : xs.headD 0 = 1
    · rw [hm] at HNO
      rw [if_neg (by simpa using hm)] at HD
      clear hm hM
      go_enter Tryd.func37, Tryd.ntmps37
      go_wp2_with fail
      refine (unhide HNO).mono ?_
      rintro e w1 ⟨rfl, hr1, hg1⟩
      go_wp2_with fail
      refine (demand_ok 80 w1).mono ?_
      rintro e w2 ⟨rfl, hw2⟩
      obtain rfl := hw2.symm
      clear hw2
      go_wp2_with fail
      rw [Nat.zero_add] at hr1 h1
      by_cases h2 : (rU 0 0 (xs.drop 1)).2.2 = 0
      · rw [if_neg (by simpa using h2)] at HD
        by_cases h3 : 1024 < (rU 0 0 (xs.drop 1)).1
        · rw [if_pos h3] at HD
          refine (count_82 hr1 HB.out h1 h2 h3).mono ?_
          rintro e w3 ⟨rfl, hg3⟩
          exact ⟨rfl, grown_then hg1 hg3, fun h => absurd h (by rw [HD.out]; decide), fun _ => by rw [HD.out]; rfl⟩
        · rw [if_neg h3] at HD
          have hok := rU_ok (l := xs.drop 1) (i := 0) (acc := 0) (fun x hx => HBT.out x (List.mem_of_mem_drop hx)) (Int.le_refl 0) h2
          rw [List.length_drop, ← HN.out] at hok
          refine (count_ok hr1 HB.out h1 h2 (by omega)).mono ?_
          rintro e w3 ⟨rfl, hr3, hg3⟩
          rw [List.drop_drop] at HD
          have hq1 : 1 + (rU 0 0 (xs.drop 1)).2.1 ≤ n := by omega
          generalize 1 + (rU 0 0 (xs.drop 1)).2.1 = p0 at *
          obtain ⟨cnt, hcnt⟩ : ∃ cnt : Nat, (rU 0 0 (xs.drop 1)).1 = (cnt : Int) := ⟨_, (Int.toNat_of_nonneg hok.1).symm⟩
          rw [hcnt, Int.toNat_natCast] at HD
          rw [hcnt]
          have hc1 : cnt ≤ 1024 := by omega
          have HG3 := hide (grown_then hg1 hg3)
          have HR3 := hide hr3
          obtain ⟨i0, hi, hz0, hz1, hz2⟩ := info_parts infoEn
          clear h2 h3 hok hcnt hg1 hg3 hr1 hr3 HNO
          have hW3 := HG3.out.size
          go_wp2_with (at_make; refine wpList_make_own _ rfl _ _ 22 rfl W.heap.size 38 i0 _ 68 Tryd.underlying22 hi hz0 hz1 .i64 .i64 _ cnt rfl rfl rfl (by rw [hz2]; omega) (by unfold maxLen; omega) hW3 ?_; intro w4 ho4 hg4)
          have hb4 : Below w3.heap.size w3 w4 := ⟨hg4.os, hg4.tape, hg4.output, hg4.size, fun k hk => hg4.block k hk (by simp)⟩
          have HO4 : Hid (OwnE w4 W.heap.size (.slice (some ⟨w3.heap.size, 0, none⟩) 0 cnt) []) := ⟨by simp, ho4⟩
          have HR4 := hide (HR3.out.below hb4)
          have HG4 := hide (grown_then HG3.out (grown_belowS g hb4))
          clear ho4 hg4 hb4 HR3 HG3 hW3 hi hz0 hz1 hz2
          go_loopw [4, 14] (fun lv iv W' => ∃ (i : Nat) (li : List Ent) (p : Nat), i ≤ cnt ∧ iv = .int .i64 (i : Int) ∧ p ≤ n ∧ Hid (li.length = i) ∧ OwnE W' W.heap.size lv li ∧ Rdr w W' g (.slice a n c) p ∧ W.grownBy W' (some g) ∧ Hid (D = decF nbL (cnt - i) (ahN li i) li (xs.drop p))) (fun _ i _ => cnt - (intOf i).toNat)
          case atStart => exact ⟨0, [], p0, by omega, rfl, hq1, rfl, HO4.out, HR4.out, HG4.out, HD⟩
          case round =>
            clear HO4 HR4 HG4 hq1 HD
            obtain ⟨i, li, p, hic, rfl, hpn, HLI, ho, hrd, hgr, HD⟩ := hrel
            obtain ⟨al, cl, hlv⟩ := ho.shape
            rw [HLI.out] at hlv
            subst hlv
            have HNE : Hid ((Value.slice al i cl).ownBlock = none ∨ (Value.slice al i cl).ownBlock ≠ some g) := by
              show _ ∨ _
              cases hu : (Value.slice al i cl).ownBlock with
              | none => exact Or.inl rfl
              | some b =>
                have := (ho.2.lt b hu).1
                have := HGL.out
                exact Or.inr (fun e => by injection e with e; omega)
            by_cases hlt : i < cnt
            · have hltI : (i : Int) < (cnt : Int) := by omega
              rw [show cnt - i = (cnt - (i + 1)) + 1 by omega, decF_step] at HD
              have hDB : Byt (xs.drop p) := HBT.out.drop p
              have HEN : Hid (∀ W', wr.grownBy W' (some g) → IsEn W' (.slice al i cl) li) := fun W' h => (ho.kept h HNE.out).isEn
              obtain ⟨E, hE⟩ : ∃ E, decE nbL (ahN li i) (xs.drop p) = E := ⟨_, rfl⟩
              have HEK : Hid (E.2.2 = 0 → EnOk E.1) := by rw [← hE]; exact decE_ok hDB nbL_le
              rw [hE] at HD
              have HEW := hide (entry_walk hrd HB.out hpn hnl HEN.out E hE)
              clear hDB hE
              go_wp2_with fail
              refine (unhide HEW).mono ?_
              rintro e w5 ⟨hg5, hok5, hno5⟩
              by_cases h0 : E.2.2 = 0
              · obtain ⟨rfl, p', hp', hdr, hr5⟩ := hok5 h0
                rw [if_neg (by simpa using h0), ← hdr] at HD
                have hxk := unhide HEK h0
                have ho5 := ho.kept hg5 HNE.out
                have HS5 : Hid (W.heap.size ≤ w5.heap.size) := Nat.le_trans hgr.size hg5.size
                generalize E.1 = x at *
                clear ho hok5 hno5 h0 HEW HEK HEN hdr
                go_wp2_with (first
                  | (refine wpList_buildEn rfl (.tmp 19) rfl rfl (enV_len hxk.ok) ?_)
                  | (at_builtin; refine wpList_appEn rfl (.tmp 16) (.tmp 20) rfl rfl (ho5.below (lit_blw _ _)) rfl (isEn_one w5 x hxk) (by rw [HLI.out]; simp; omega) (Nat.le_trans HS5.out (lit_blw _ _).size) ?_; intro v7 w7 ho7 hg7 hvb7))
                have hb6 := lit_blw w5 (.cells (enV x).toArray 38)
                have hbl7 : ∀ k, k < W.heap.size → w7.heap[k]? = (w5.alloc (.cells (enV x).toArray 38)).heap[k]? := fun k hk => hg7.block k (Nat.lt_of_lt_of_le hk (Nat.le_trans HS5.out hb6.size)) (fun e => by
                  rcases hvb7 with h | ⟨b, h, hbb⟩
                  · rw [h] at e; cases e
                  · rw [h] at e; injection e with e; omega)
                have hgr7 : W.grownBy w7 (some g) := ⟨hg7.os.trans (hb6.os.trans (hg5.os.trans hgr.os)), hg7.tape.trans (hb6.tape.trans (hg5.tape.trans hgr.tape)), hg7.output.trans (hb6.output.trans (hg5.output.trans hgr.output)), Nat.le_trans HS5.out (Nat.le_trans hb6.size hg7.size), fun k hk hne => (hbl7 k hk).trans ((hb6.block k (Nat.lt_of_lt_of_le hk HS5.out)).trans ((hg5.block k (Nat.lt_of_lt_of_le hk hgr.size) hne).trans (hgr.block k hk hne)))⟩
                have hr6 := hr5.below hb6
                have hr7 : Rdr w w7 g (.slice a n c) p' := ⟨hr6.blk.keep (hbl7 g HGL.out), ⟨hg7.os.trans hr6.old.os, hg7.tape.trans hr6.old.tape, hg7.output.trans hr6.old.output, Nat.le_trans hr6.old.size hg7.size, fun k hk => (hbl7 k (Nat.lt_of_lt_of_le hk (Nat.le_trans hr6.new (Nat.le_of_lt HGL.out)))).trans (hr6.old.block k hk)⟩, hr6.new⟩
                have HD2 : Hid (D = decF nbL (cnt - (i + 1)) (ahN (li ++ [x]) (i + 1)) (li ++ [x]) (xs.drop p')) := by show _ = _; rw [ahN_snoc li x HLI.out]; exact HD.out
                clear hg5 hr5 ho5 hg7 hvb7 hb6 hbl7 hr6 HD hgr hrd
                go_roundw
                case rel => exact ⟨i + 1, li ++ [x], p', by omega, by go_num, hp', by show _ = _; rw [List.length_append, HLI.out]; rfl, ho7, hr7, hgr7, HD2⟩
                case measure => simp [intOf]; omega
              · obtain rfl := hno5 h0
                rw [if_pos h0] at HD
                exact ⟨rfl, grown_then hgr hg5, fun h => absurd (by rw [HD.out] at h; exact h) h0, fun _ => by rw [HD.out]; rfl⟩
            · have hltI : ¬ (i : Int) < (cnt : Int) := by omega
              rw [show cnt - i = 0 by omega] at HD
              have HDE : Hid (D = if xs.drop p = [] then (li, 0) else ([], 80)) := HD.out
              have hc0 := hrd.c0
              have hc1 := hrd.c1
              have HS : Hid (∀ W', Below wr.heap.size wr W' → W'.cell? ⟨g, 0, none⟩ = some (.slice a n c) ∧ W'.cell? ⟨g, 1, none⟩ = some (.int .i64 (p : Int))) := fun W' hW => ⟨(hrd.below hW).c0, (hrd.below hW).c1⟩
              have hpl : n ≤ 9223372036854775807 := by omega
              have HLD : Hid ((xs.drop p).length = n - p) := by show _ = _; rw [List.length_drop, HN.out]
              have HGR := hide hgr
              have HO := hide ho
              clear HD ho hgr hrd
              by_cases hpe : p = n
              · have hd : ((p : Int) == (n : Int)) = true := by rw [hpe]; simp
                have HF : Hid (D = (li, 0)) := by
                  show _ = _
                  rw [HDE.out, if_pos (List.eq_nil_of_length_eq_zero (by rw [HLD.out]; omega))]
                clear hpe HDE
                go_wp2_with fail
                focus (go_region_held3 (fun W' => W'.cell? ⟨g, 0, none⟩ = some (.slice a n c) ∧ W'.cell? ⟨g, 1, none⟩ = some (.int .i64 (p : Int)))
                  ((refine unhide HS _ ?_; (repeat (first | assumption | exact Below.refl _ _ | refine Below.drew ?_))))
                  (first
                    | (go_at_call 57; refine (demand_ok 80 _).mono ?_; rintro e w9 ⟨rfl, hw9⟩; obtain rfl := hw9.symm)))
                have hbd : Below wr.heap.size wr wr.drew := (Below.refl _ _).drew
                have HO9 := hide (HO.out.below hbd)
                have HG9 := hide (grown_then HGR.out (grown_belowS g hbd))
                generalize wr.drew = w9 at *
                go_wp2
                go_ret
                exact ⟨HG9.out, fun _ => ⟨_, _, _, rfl, by rw [HF.out]; exact HO9.out⟩, fun h => absurd (by rw [HF.out]) h⟩
              · have hd : ((p : Int) == (n : Int)) = false := by simp; omega
                have HF : Hid (D = ([], 80)) := by
                  show _ = _
                  rw [HDE.out, if_neg (fun h => by have := HLD.out; rw [h] at this; simp at this; omega)]
                clear hpe HDE
                go_wp2_with fail
                refine wp_region_held_drew (S := fun W' => W'.cell? ⟨g, 0, none⟩ = some (.slice a n c) ∧ W'.cell? ⟨g, 1, none⟩ = some (.int .i64 (p : Int))) (by kernel_rfl) (unhide HS _ (Below.refl _ _).drew) (fun hHeld => ?_)
                refine wpAnyH_take (i := 0) (v := .pointer (some ⟨g, 0, none⟩)) rfl (by kernel_rfl) (by kernel_rfl) (by kernel_rfl) (fun _ _ _ h => h) (Or.inl ⟨by rfl, fun w hSw => by obtain ⟨hS1, hS2⟩ := hSw; go_simp⟩) (by assumption) ?_
                simp only [List.getElem_toArray, List.getElem_cons_zero, Act.put, List.setIfInBounds_toArray, List.set_cons_zero, List.set_cons_succ]
                refine wpAnyH_take (i := 1) (v := .pointer (some ⟨g, 0, none⟩)) rfl (by kernel_rfl) (by kernel_rfl) (by kernel_rfl) (fun _ _ _ h => h) (Or.inl ⟨by rfl, fun w hSw => by obtain ⟨hS1, hS2⟩ := hSw; go_simp⟩) (by assumption) ?_
                simp only [List.getElem_toArray, List.getElem_cons_succ, List.getElem_cons_zero, Act.put, List.setIfInBounds_toArray, List.set_cons_zero, List.set_cons_succ]
                refine wpAnyH_take (i := 2) (v := .pointer (some ⟨g, 1, none⟩)) rfl (by kernel_rfl) (by kernel_rfl) (by kernel_rfl) (fun _ _ _ h => h) (Or.inl ⟨by rfl, fun w hSw => by obtain ⟨hS1, hS2⟩ := hSw; go_simp⟩) (by assumption) ?_
                simp only [List.getElem_toArray, List.getElem_cons_succ, List.getElem_cons_zero, Act.put, List.setIfInBounds_toArray, List.set_cons_zero, List.set_cons_succ]
                refine wpAnyH_take (i := 3) (v := .int .i64 (p : Int)) rfl (by kernel_rfl) (by kernel_rfl) (by kernel_rfl) (fun _ _ _ h => h) (Or.inl ⟨by rfl, fun w hSw => by obtain ⟨hS1, hS2⟩ := hSw; go_simp⟩) (by assumption) ?_
                simp only [List.getElem_toArray, List.getElem_cons_succ, List.getElem_cons_zero, Act.put, List.setIfInBounds_toArray, List.set_cons_zero, List.set_cons_succ]
                refine wpAnyH_take (i := 4) (v := .pointer (some ⟨g, 0, none⟩)) rfl (by kernel_rfl) (by kernel_rfl) (by kernel_rfl) (fun _ _ _ h => h) (Or.inl ⟨by rfl, fun w hSw => by obtain ⟨hS1, hS2⟩ := hSw; go_simp⟩) (by assumption) ?_
                simp only [List.getElem_toArray, List.getElem_cons_succ, List.getElem_cons_zero, Act.put, List.setIfInBounds_toArray, List.set_cons_zero, List.set_cons_succ]
                refine wpAnyH_take (i := 5) (v := .pointer (some ⟨g, 0, none⟩)) rfl (by kernel_rfl) (by kernel_rfl) (by kernel_rfl) (fun _ _ _ h => h) (Or.inl ⟨by rfl, fun w hSw => by obtain ⟨hS1, hS2⟩ := hSw; go_simp⟩) (by assumption) ?_
                simp only [List.getElem_toArray, List.getElem_cons_succ, List.getElem_cons_zero, Act.put, List.setIfInBounds_toArray, List.set_cons_zero, List.set_cons_succ]
                refine wpAnyH_take (i := 6) (v := .pointer (some ⟨g, 0, none⟩)) rfl (by kernel_rfl) (by kernel_rfl) (by kernel_rfl) (fun _ _ _ h => h) (Or.inl ⟨by rfl, fun w hSw => by obtain ⟨hS1, hS2⟩ := hSw; go_simp⟩) (by assumption) ?_
                simp only [List.getElem_toArray, List.getElem_cons_succ, List.getElem_cons_zero, Act.put, List.setIfInBounds_toArray, List.set_cons_zero, List.set_cons_succ]
                refine wpAnyH_take (i := 7) (v := .slice a n c) rfl (by kernel_rfl) (by kernel_rfl) (by kernel_rfl) (fun _ _ _ h => h) (Or.inl ⟨by rfl, fun w hSw => by obtain ⟨hS1, hS2⟩ := hSw; go_simp⟩) (by assumption) ?_
                simp only [List.getElem_toArray, List.getElem_cons_succ, List.getElem_cons_zero, Act.put, List.setIfInBounds_toArray, List.set_cons_zero, List.set_cons_succ]
                refine wpAnyH_take (i := 8) (v := .int .i64 (n : Int)) rfl (by kernel_rfl) (by kernel_rfl) (by kernel_rfl) (fun _ _ _ h => h) (Or.inl ⟨by rfl, fun w hSw => by obtain ⟨hS1, hS2⟩ := hSw; go_simp⟩) (by assumption) ?_
                simp only [List.getElem_toArray, List.getElem_cons_succ, List.getElem_cons_zero, Act.put, List.setIfInBounds_toArray, List.set_cons_zero, List.set_cons_succ]
                refine wpAnyH_take (i := 9) (v := .bool false) rfl (by kernel_rfl) (by kernel_rfl) (by kernel_rfl) (fun _ _ _ h => h) (Or.inl ⟨by rfl, fun w hSw => by obtain ⟨hS1, hS2⟩ := hSw; go_simp⟩) (by assumption) ?_
                simp only [List.getElem_toArray, List.getElem_cons_succ, List.getElem_cons_zero, Act.put, List.setIfInBounds_toArray, List.set_cons_zero, List.set_cons_succ]
                refine wpAnyH_ready (rs := [10]) (by kernel_rfl) (by simp) (AllReadyH.cons rfl (fun K hK => ?_) AllReadyH.nil)
                refine step_call2P (by rfl) 57 demand_enter (.tmp 32) (.const (.int .i64 80)) _ rfl rfl rfl (demand_no 80 _) ?_
                rintro e w9 ⟨rfl, hw9⟩
                obtain rfl := hw9.symm
                refine ⟨_, rfl, ?_⟩
                exact ⟨rfl, grown_then HGR.out (grown_belowS g (Below.refl _ _).drew), fun h => absurd h (by rw [HF.out]; decide), fun _ => by rw [HF.out]; rfl⟩
      · rw [if_pos (by simpa using h2)] at HD
        refine (count_80 hr1 HB.out h1 h2).mono ?_
        rintro e w3 ⟨rfl, hg3⟩
        exact ⟨rfl, grown_then hg1 hg3, fun h => absurd h (by rw [HD.out]; decide), fun _ => by rw [HD.out]; rfl⟩
    · rw [if_pos hm] at HD
      have hd : (xs.headD 0 == 1) = false := by simpa using hm
      generalize xs.headD 0 = m at *
      clear hM
      go_enter Tryd.func37, Tryd.ntmps37
      go_wp2_with fail
      refine (unhide HNO).mono ?_
      rintro e w1 ⟨rfl, hr1, hg1⟩
      go_wp2_with fail
      refine (demand_no 80 w1).mono ?_
      rintro e w2 ⟨rfl, hw2⟩
      obtain rfl := hw2.symm
      exact ⟨rfl, hg1, fun h => absurd h (by rw [HD.out]; decide), fun _ => by rw [HD.out]; rfl⟩
  · have hx0 : xs = [] := List.eq_nil_of_length_eq_zero (by have := HN.out; omega)
    rw [if_pos (by rw [hx0]; decide)] at HD
    have HNO := hide (number_no HR.out HB.out (size := 1) (by decide) (by decide) (Nat.zero_le _) (by omega))
    clear hx0
    go_enter Tryd.func37, Tryd.ntmps37
    go_wp2_with fail
    refine (unhide HNO).mono ?_
    rintro e w1 ⟨rfl, hg1⟩
    exact ⟨rfl, hg1, fun h => absurd h (by rw [HD.out]; decide), fun _ => by rw [HD.out]; rfl⟩
theorem decL_long {xs : List Int} (h : 1048576 < xs.length) : decL nbL xs = ([], 2) := by unfold decL; rw [if_pos h]
theorem decF_nil {nb : List Int → Bool} : ∀ (n : Nat) (ah : Option (List Int)) (l : List Ent) (b : List Int), (decF nb n ah l b).2 ≠ 0 → (decF nb n ah l b).1 = []
  | 0, ah, l, b, h => by
    unfold decF at h ⊢
    by_cases hb : b = []
    · rw [if_pos hb] at h; exact absurd rfl h
    · rw [if_neg hb]
  | n + 1, ah, l, b, h => by
    rw [decF_step] at h ⊢
    by_cases he : (decE nb ah b).2.2 ≠ 0
    · rw [if_pos he]
    · rw [if_neg he] at h ⊢
      exact decF_nil n _ _ _ h
theorem decL_nil {nb : List Int → Bool} {xs : List Int} (h : (decL nb xs).2 ≠ 0) : (decL nb xs).1 = [] := by
  unfold decL at h ⊢
  by_cases h1 : 1048576 < xs.length
  · rw [if_pos h1]
  rw [if_neg h1] at h ⊢
  by_cases h2 : xs.headD 0 ≠ 1
  · rw [if_pos h2]
  rw [if_neg h2] at h ⊢
  by_cases h3 : (rU 0 0 xs.tail).2.2 ≠ 0
  · rw [if_pos h3]
  rw [if_neg h3] at h ⊢
  by_cases h4 : 1024 < (rU 0 0 xs.tail).1
  · rw [if_pos h4]
  rw [if_neg h4] at h ⊢
  exact decF_nil _ _ _ _ h
/-- node.Decode, of every slice. -/
theorem decode_calls {w : World} {v : Value} {xs : List Int} (hb : IsB w v xs) : Calls Tryd.prog 17 #[v] w fun e w' => ∃ u, e = .returned (.tuple #[u, .int .i64 (decL nbL xs).2]) ∧ OwnE w' w.heap.size u (decL nbL xs).1 ∧ Below w.heap.size w w' := by
  obtain ⟨a, n, c, rfl⟩ := hb.shape
  have hn := hb.lenEq
  by_cases hl : 1048576 < n
  · refine (decode_long w hl).mono ?_
    rintro e w' ⟨rfl, hw⟩
    rw [decL_long (by omega)]
    exact ⟨_, rfl, OwnE.nil _ _, hw⟩
  · have hrd : ∀ (W : World) (g : Nat), g = w.heap.size + 1 + 1 → W.heap[g]? = some (.cells #[.slice a n c, .int .i64 0] 73) → Below w.heap.size w W → Rdr w W g (.slice a n c) 0 := fun W g hg hh hW => ⟨hh, hW, by omega⟩
    by_cases h0 : (decL nbL xs).2 = 0
    · refine (decode_ok (P := fun u w5 => OwnE w5 (w.heap.size + 1 + 1 + 1) u (decL nbL xs).1) w (by omega) ?_).mono ?_
      · intro W g hg hh hW
        refine (directory_walk (hrd W g hg hh hW) hb (by omega)).mono ?_
        rintro e w' ⟨hgr, hok, _⟩
        obtain ⟨a', n', c', rfl, ho⟩ := hok h0
        have hlt : g < W.heap.size := (Array.getElem?_eq_some_iff.1 hh).1
        exact ⟨⟨a', n', c', rfl, ho.mono (by omega)⟩, hgr⟩
      · rintro e w' ⟨⟨u, w5, rfl, ho, rfl⟩, hbw⟩
        rw [h0]
        refine ⟨u, rfl, ?_, hbw⟩
        have hne : ∀ k, k < w.heap.size + 1 + 1 + 1 → (u.ownBlock = none ∨ u.ownBlock ≠ some k) := fun k hk => by
          cases hu : u.ownBlock with
          | none => exact Or.inl rfl
          | some b =>
            have := (ho.2.lt b hu).1
            exact Or.inr (fun e => by injection e with e; omega)
        exact ((ho.kept (grown_put w5 w.heap.size 0 u) (hne _ (by omega))).kept (grown_put _ (w.heap.size + 1) 0 (.int .i64 0)) (hne _ (by omega))).mono (by omega)
    · refine (decode_no (x := (decL nbL xs).2) w (by omega) ?_).mono ?_
      · intro W g hg hh hW
        refine (directory_walk (hrd W g hg hh hW) hb (by omega)).mono ?_
        rintro e w' ⟨hgr, _, hno⟩
        exact ⟨hno h0, hgr⟩
      · rintro e w' ⟨rfl, hw⟩
        refine ⟨_, rfl, ?_, hw⟩
        rw [decL_nil h0]
        exact OwnE.nil _ _
end Go.Proofs.YtpklbchbldipnabDoor
