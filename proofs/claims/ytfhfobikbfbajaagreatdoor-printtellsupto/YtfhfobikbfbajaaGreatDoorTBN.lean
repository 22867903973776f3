/- What Write does: the bytes have come. -/
import Derived.Test.YtfhfobikbfbajaaGreatDoorTBM
import Derived.Test.YtfhfobikbfbajaaGreatDoorTAJ
namespace Go.Proofs.YtfhfobikbfbajaaGreatDoor
open Go.RowKit

theorem grown_wrote {w w' : World} {g : Nat} (h : Wrote w w' g) : w.grownBy w' (some g) :=
  have hb := h.below 0 w (Below.refl 0 w) (Nat.zero_le _)
  ⟨hb.os, hb.tape, hb.output, hb.size, fun k _ hne => h.other k (by simpa using hne)⟩
theorem grown_belowS {w w' : World} (g : Nat) (h : Below w.heap.size w w') : w.grownBy w' (some g) := ⟨h.os, h.tape, h.output, h.size, fun k hk _ => h.block k hk⟩
theorem grown_then {w a b : World} {g : Nat} (h1 : w.grownBy a (some g)) (h2 : a.grownBy b (some g)) : w.grownBy b (some g) :=
  ⟨h2.os.trans h1.os, h2.tape.trans h1.tape, h2.output.trans h1.output, Nat.le_trans h1.size h2.size, fun k hk hne => (h2.block k (Nat.lt_of_lt_of_le hk h1.size) hne).trans (h1.block k hk hne)⟩
/-- Cells are copied into a block. -/
theorem wpList_copyW {P : Program} {w : World} {ops : Array Oper} {rest : List Oper} {o : Oper} {a : Act} {Q : Exit → Act → World → Prop} (hgd : o.guard = none) (d s : Operand) (dT sT : TypeId)
    (ho : o.op = .call { callee := .builtin .copy, args := #[d, s], argTypes := #[dT, sT] }) (elem : TypeId) (hu : P.underlying dT = some (.slice elem)) (hsz : (P.info? elem).map (·.size) = some 1)
    (dp sp : Option Addr) (dLen dCap sLen sCap : Nat) (hd : a.eval d = .slice dp dLen dCap) (hs : a.eval s = .slice sp sLen sCap)
    (g off : Nat) (cur : List Value) (t : TypeId) (hg : Arr w g t cur) (cs : List Value) (hn : cs.length = Nat.min sLen dLen)
    (hpos : 0 < cs.length → dp = some ⟨g, off, none⟩ ∧ ∃ ad, sp = some ad ∧ ∀ j v, cs[j]? = some v → w.cell? (ad.add j) = some v)
    (hfit : off + cs.length ≤ cur.length) (h1 : ∀ v ∈ cs, v.oneCell' = true)
    (h : ∀ w', Arr w' g t (splice cur off cs) → Wrote w w' g → wpList P ops Q rest (a.put o.dst (goInt cs.length)) w') :
    wpList P ops Q (o :: rest) a w := by
  by_cases h0 : cs.length = 0
  · obtain rfl : cs = [] := List.eq_nil_of_length_eq_zero h0
    refine wpList_copy_nothing hgd d s dT sT ho elem hu hsz dp sp dLen dCap sLen sCap hd hs (by simpa using hn.symm) ?_
    have hg' : w.heap[g]? = some (.cells cur.toArray t) := hg
    exact h w (show _ = _ by simpa [splice] using hg') ⟨fun _ _ => rfl, rfl, fun _ _ hb _ => hb⟩
  · obtain ⟨rfl, ad, rfl, hsrc⟩ := hpos (by omega)
    refine wpList_copy_own hgd d s dT sT ho elem hu hsz g off dLen dCap ad sLen sCap hd hs cur.toArray t hg cs hn hsrc (by simpa using hfit) h1 ?_
    exact h _ (show _ = _ by simpa [splice] using setRow_heap w g _ _ t _ hg) ⟨fun k hk => Go.setRow_other w g k _ hk, by simp, fun _ _ hb hB => below_setRow hb hB _⟩
/-- Where the bytes of a slice lie. -/
structure Lies (w : World) (g : Nat) (a : Option Addr) (n : Nat) (ys : List Int) (b off : Nat) : Prop where
  at_ : 0 < n → a = some ⟨b, off, none⟩
  ne : b ≠ g
  cell : ∀ j, j < n → w.cell? ⟨b, off + j, none⟩ = some (.int .u8 (ys.getD j 0))
theorem IsB.lies {w : World} {g : Nat} {a : Option Addr} {n cap : Nat} {ys : List Int} (h : IsB w (.slice a n cap) ys) (hne : 0 < n → ∀ ad, a = some ad → ad.block ≠ g) : ∃ b off, Lies w g a n ys b off := by
  have hn := h.lenEq
  obtain ⟨_, a', cp', hv, _, _, _, hc⟩ := h
  injection hv with e1 e2 e3
  subst e1
  by_cases h0 : 0 < n
  · obtain ⟨b, off, ha, hcell⟩ := hc (by omega)
    exact ⟨b, off, fun _ => ha, hne h0 _ ha, fun j hj => hcell j (by omega)⟩
  · exact ⟨g + 1, 0, fun h => absurd h h0, by omega, fun j hj => by omega⟩
theorem Lies.grown {w w' : World} {g : Nat} {a : Option Addr} {n : Nat} {ys : List Int} {b off : Nat} (h : Lies w g a n ys b off) (hg : w.grownBy w' (some g)) : ∀ j, j < n → w'.cell? ⟨b, off + j, none⟩ = some (.int .u8 (ys.getD j 0)) := fun j hj => by
  rw [← h.cell j hj]
  exact World.cell?_of_block (hg.block b (World.block_lt_of_cell? w _ (h.cell j hj)) (by simpa using h.ne))
theorem TabK.grown {w w' : World} {g : Nat} (h : TabK w) (hg : w.grownBy w' (some g)) (hne : 2 ≠ g) : TabK w' := fun i hi => by
  rw [← h i hi]
  exact World.cell?_of_block (hg.block _ (World.block_lt_of_cell? w _ (h i hi)) (by simpa using hne))
set_option maxRecDepth 100000 in
set_option maxHeartbeats 4000000 in
theorem write_calls {w : World} {g : Nat} {xs ys : List Int} {a : Option Addr} {n cap : Nat} (h : IsHash w g xs) (hy : IsB w (.slice a n cap) ys) (hbg : 0 < n → ∀ ad, a = some ad → ad.block ≠ g) (hl : xs.length + ys.length ≤ 140737488350000) (hT : TabK w) (hGK : 2 ≠ g) :
    Calls Tryz.prog 39 #[.pointer (some ⟨g, 0, none⟩), .slice a n cap] w fun e w' => (∃ v, e = .returned v) ∧ IsHash w' g (xs ++ ys) ∧ w.grownBy w' (some g) := by
  obtain ⟨b, off, hLi⟩ := hy.lies hbg
  have hyb := hy.mem
  have hrm := hy.room
  have hcm : cap ≤ 9223372036854775807 := by
    obtain ⟨_, a', cp', hv, _, hm', _⟩ := hy
    injection hv with e1 e2 e3
    omega
  have hn := hy.lenEq
  obtain ⟨hm, hlx, r, hr, hrb, hrt, hA⟩ := h
  have h72 := hA.cell 72
  rw [hash_at_len hr] at h72
  have hf72 := hA.frozen 72
  have hi8 : (Tryz.prog.info? 5).map (·.size) = some 1 := by kernel_rfl
  obtain ⟨L, hL⟩ : ∃ L, L = xs.length := ⟨_, rfl⟩
  have hzl : (xs ++ ys).length = L + n := by rw [List.length_append, ← hL, ← hn]
  have hmz : ∀ x ∈ xs ++ ys, 0 ≤ x ∧ x ≤ 255 := fun x hx => by
    rcases List.mem_append.1 hx with hx | hx
    · exact hm x hx
    · exact hyb x hx
  rw [← hL] at h72 hl hrt
  rw [← hn] at hl
  -- behind the loop's last round
  have HDONE : Hid (∀ (p m : Nat) (r' : List Int) (W : World), 64 * p + m = L + n → m < 64 → m ≤ n → r'.length = 64 → (∀ x ∈ r', 0 ≤ x ∧ x ≤ 255) → Arr W g 125 (splice (hashCells (absorbN init8 (xs ++ ys) p) r' (L + n)) 8 ((ys.drop (n - m)).map (Value.int .u8))) → IsHash W g (xs ++ ys)) := by
    intro p m r' W hpm hm64 hmn hr' hrb' hW
    have hdl : (ys.drop (n - m)).length = m := by rw [List.length_drop]; omega
    have hp : p = (xs ++ ys).length / 64 := by rw [hzl]; omega
    rw [show (8 : Nat) = 8 + 0 from rfl, hash_rest (by omega), hdl, List.take_zero, List.nil_append] at hW
    refine ⟨hmz, by omega, ys.drop (n - m) ++ r'.drop (0 + m), by rw [List.length_append, hdl, List.length_drop]; omega, fun x hx => ?_, ?_, by rw [← hp, hzl]; exact hW⟩
    · rcases List.mem_append.1 hx with hx | hx
      · exact hyb x (List.mem_of_mem_drop hx)
      · exact hrb' x (List.mem_of_mem_drop hx)
    · rw [← hp, hzl, show (L + n) % 64 = m by omega, List.take_left' hdl, List.drop_append, ← hL, List.drop_eq_nil_of_le (show xs.length ≤ 64 * p by omega), List.nil_append, show 64 * p - L = n - m by omega]
  have HLI := hide hLi
  have HT := hide hT
  have HN := hide hn
  have HL := hide hL
  have HZL := hide hzl
  have HMZ := hide hmz
  have HA := hide hA
  have HRT := hide hrt
  have HYB := hide hyb
  have HM := hide hm
  clear hA hy hT hn hL hrt hLi hzl hmz hbg hyb hm hlx
  by_cases hu : L % 64 = 0
  · skip
    have huI : (L : Int) % 64 = 0 := by omega
    have hA1 : Arr (w.setCell ⟨g, 72, none⟩ (.int .i64 ((L : Int) + (n : Int)))) g 125 (hashCells (absorbN init8 (xs ++ ys) (L / 64)) r (L + n)) := by
      have h1 := (unhide HA).set 72 (.int .i64 ((L + n : Nat) : Int))
      rw [hash_set_len hr, ← HL.out] at h1
      rw [absorb_pre (xs := xs ++ ys) (ys := xs) (L / 64) (fun j hj => List.getElem?_append_left (by rw [← HL.out]; omega))]
      exact h1
    have hg1 := grown_set w g 72 (.int .i64 ((L : Int) + (n : Int)))
    go_enter Tryz.func39, Tryz.ntmps39
    go_wp2_with fail
    generalize w.setCell ⟨g, 72, none⟩ (.int .i64 ((L : Int) + (n : Int))) = w1 at *
    have HU := hide hu
    clear h72 hf72 hu huI
    go_loopw [1] (fun v wr => ∃ (p m : Nat) (a' : Option Addr) (cp : Nat), 64 * p + m = L + n ∧ v = .slice a' m cp ∧ m ≤ cp ∧ cp ≤ 9223372036854775807 ∧ m ≤ n ∧ (0 < m → a' = some ⟨b, off + (n - m), none⟩) ∧ (∃ r : List Int, r.length = 64 ∧ (∀ x ∈ r, 0 ≤ x ∧ x ≤ 255) ∧ Arr wr g 125 (hashCells (absorbN init8 (xs ++ ys) p) r (L + n))) ∧ w.grownBy wr (some g)) (fun v _ => sliceLen v)
    case atStart => exact ⟨L / 64, n, a, cap, by have := HU.out; omega, rfl, hrm, hcm, Nat.le_refl _, fun h => by rw [Nat.sub_self]; exact (unhide HLI).at_ h, ⟨r, hr, hrb, hA1⟩, hg1⟩
    case round =>
      clear hA1 hg1 hr hrb HA
      obtain ⟨p, m, a', cp, hpm, rfl, hmc, hcp, hmn, ho, ⟨r', hr, hrb, hH⟩, hgr⟩ := hrel
      by_cases hm64 : 64 ≤ m
      · have ho' := ho (by omega)
        subst ho'
        clear ho
        obtain ⟨o, hO⟩ : ∃ o, o = off + (n - m) := ⟨_, rfl⟩
        rw [← hO]
        have HO := hide hO
        clear hO
        have hok := absorbN_ok init8_ok (xs ++ ys) p
        obtain ⟨T, hTe⟩ : ∃ T, T = absorbN init8 (xs ++ ys) p := ⟨_, rfl⟩
        rw [← hTe] at hH hok
        obtain ⟨T', hT'⟩ : ∃ T', T' = blockF T (((xs ++ ys).drop (64 * p)).take 64) := ⟨_, rfl⟩
        have HT' : Hid (absorbN init8 (xs ++ ys) (p + 1) = T') := by
          show _ = _
          rw [absorbN, hT', hTe]
        have hcall : ∀ W : World, W.heap = wr.heap → Calls Tryz.prog 61 #[.agg T.vals.toArray, .slice (some ⟨b, o, none⟩) 64 cp] W fun e w' => e = .returned (.agg (blockF T (((xs ++ ys).drop (64 * p)).take 64)).vals.toArray) ∧ Below W.heap.size W w' := fun W hW' => by
          have ec : ∀ a, W.cell? a = wr.cell? a := fun a => by unfold World.cell?; rw [hW']
          refine after_in T b o cp (((xs ++ ys).drop (64 * p)).take 64) W (by omega) hcp (block_bytes (unhide HMZ) p) (fun j hj => ?_) (fun i hi => by rw [ec]; exact (unhide HT).grown hgr hGK i hi) hok
          have h1 := (unhide HLI).grown hgr (n - m + j) (by omega)
          rw [ec, HO.out, block_at hj, List.getD_eq_getElem?_getD, List.getElem?_append_right (by rw [← HL.out]; omega), ← HL.out, show 64 * p + j - L = n - m + j by omega, ← List.getD_eq_getElem?_getD, Nat.add_assoc, ← h1]
        rw [← hT'] at hcall
        have HCALL := hide hcall
        have hpart : ∀ j v, T.vals[j]? = some v → (hashCells T r' (L + n))[0 + j]? = some v := fun j v hv => by
          have hj : j < 8 := (List.getElem?_eq_some_iff.1 hv).1
          rw [Nat.zero_add, hash_at_word hj, hv]
        have HP := hide hpart
        have hi8T : (Tryz.prog.info? 122).map (·.size) = some T.vals.length := by kernel_rfl
        have hi8T' : (Tryz.prog.info? 122).map (·.size) = some T'.vals.length := by kernel_rfl
        have hfit : 0 + T'.vals.length ≤ (hashCells T r' (L + n)).length := by rw [hash_len]; show 0 + 8 ≤ _; omega
        have honeT := H8.vals_one T'
        have hHd := hH.drew
        have hHlt := hH.lt
        clear hcall hT' hTe hpart
        have hmI : (64 : Int) ≤ (m : Int) := by omega
        have hcI : (64 : Int) ≤ (cp : Int) := by omega
        go_wp2_with fail
        refine wp_region_any (by kernel_rfl) ?_
        change wpAny _ _ _ _ _ _ _ (World.drew _)
        refine wpAny_gen fun fr hfr => ?_
        have hs : fr.tmps.size = 69 := by rw [hfr]; rfl
        have h0 : fr.tmps[0]'(by rw [hs]; decide) = .pointer (some ⟨g, 0, none⟩) := by simp only [hfr]; rfl
        have h1 : fr.tmps[1]'(by rw [hs]; decide) = .slice (some ⟨b, o, none⟩) m cp := by simp only [hfr]; rfl
        have HFR := hide hfr
        clear hfr
        refine wpAny_val 0 51 (.pointer (some ⟨g, 0, none⟩)) rfl rfl (by kernel_rfl) (by kernel_rfl) (by kernel_rfl) (fun _ _ _ h => h) (Or.inl ⟨by rfl, by intro w; go_simp⟩) ?_
        refine wpAny_val 1 52 (.pointer (some ⟨g, 0, none⟩)) rfl rfl (by kernel_rfl) (by kernel_rfl) (by kernel_rfl) (fun _ _ _ h => h) (Or.inl ⟨by rfl, by intro w; go_simp⟩) ?_
        refine wpAny_val 2 53 (.pointer (some ⟨g, 0, none⟩)) rfl rfl (by kernel_rfl) (by kernel_rfl) (by kernel_rfl) (fun _ _ _ h => h) (Or.inl ⟨by rfl, by intro w; go_simp⟩) ?_
        refine wpAny_val 3 54 (.pointer (some ⟨g, 0, none⟩)) rfl rfl (by kernel_rfl) (by kernel_rfl) (by kernel_rfl) (fun _ _ _ h => h) (Or.inl ⟨by rfl, by intro w; go_simp⟩) ?_
        refine wpAny_val 5 56 (.slice (some ⟨b, o, none⟩) m cp) rfl rfl (by kernel_rfl) (by kernel_rfl) (by kernel_rfl) (fun _ _ _ h => h) (Or.inl ⟨by rfl, by intro w; go_simp⟩) ?_
        refine wpAny_val 6 57 (.slice (some ⟨b, o, none⟩) 64 cp) rfl rfl (by kernel_rfl) (by kernel_rfl) (by kernel_rfl) (fun _ _ _ h => h) (Or.inl ⟨by rfl, by intro w; go_simp⟩) ?_
        refine wpAny_one 4 (by kernel_rfl) rfl rfl fun K hK => ?_
        refine wp_loadPart 55 (.tmp 54) 122 rfl rfl T.vals (by go_simp) hHd (unhide HP) Tryz.underlying122 hi8T ?_
        refine hK.go _ _ ?_
        clear hK K
        refine wpAny_one 7 (by kernel_rfl) rfl rfl fun K hK => ?_
        refine ⟨?_⟩
        go_simp
        refine (unhide HCALL wr.drew rfl).mono ?_
        rintro e w5 ⟨rfl, hb5⟩
        refine hK.go _ _ ?_
        clear hK K
        have hb5' : Below wr.heap.size wr w5 := ⟨hb5.os, hb5.tape, hb5.output, hb5.size, hb5.block⟩
        have hH5 := hH.below hb5'
        refine wpAny_val 8 59 (.pointer (some ⟨g, 0, none⟩)) rfl rfl (by kernel_rfl) (by kernel_rfl) (by kernel_rfl) (fun _ _ _ h => h) (Or.inl ⟨by rfl, by intro w; go_simp⟩) ?_
        refine wpAny_val 9 60 (.pointer (some ⟨g, 0, none⟩)) rfl rfl (by kernel_rfl) (by kernel_rfl) (by kernel_rfl) (fun _ _ _ h => h) (Or.inl ⟨by rfl, by intro w; go_simp⟩) ?_
        refine wpAny_one 10 (by kernel_rfl) rfl rfl fun K hK => ?_
        refine wp_storePart (.tmp 60) (.tmp 58) 122 rfl rfl T'.vals (by go_simp) (by go_simp) hH5 hi8T' hfit honeT ?_
        intro w6 hH6 hw6
        rw [hash_words] at hH6
        have hg6 := grown_then hgr (grown_then (grown_belowS g hb5') (grown_wrote hw6))
        refine hK.go _ _ ?_
        clear hK K
        refine wpAny_done (by kernel_rfl) ?_ _
        have hfr := HFR.out
        clear HFR h0 h1 hs
        subst hfr
        have HEND : Hid (Arr w6 g 125 (hashCells (absorbN init8 (xs ++ ys) (p + 1)) r' (L + n))) := by
          show Arr _ _ _ _
          rw [HT'.out]
          exact hH6
        clear hH6 hH5 hw6 hb5' hb5 hHd hH hgr
        by_cases hc64 : cp = 64
        · subst hc64
          obtain rfl : m = 64 := by omega
          go_wp2
          exact ⟨⟨p + 1, 0, _, 0, by omega, rfl, by omega, by omega, by omega, fun h => by omega, ⟨r', hr, hrb, unhide HEND⟩, hg6⟩, by simp [sliceLen]⟩
        · have hcN : ¬ cp - 64 = 0 := by omega
          go_wp2
          have hO := HO.out
          exact ⟨⟨p + 1, m - 64, some ⟨b, o + 64, none⟩, cp - 64, by omega, rfl, by omega, by omega, by omega, fun _ => by rw [show o + 64 = off + (n - (m - 64)) by omega], ⟨r', hr, hrb, unhide HEND⟩, hg6⟩, by simp [sliceLen]; omega⟩
      · have hdl : ((ys.drop (n - m)).map (Value.int .u8)).length = m := by rw [List.length_map, List.length_drop, ← HN.out]; omega
        have hfit : 8 + ((ys.drop (n - m)).map (Value.int .u8)).length ≤ (hashCells (absorbN init8 (xs ++ ys) p) r' (L + n)).length := by rw [hash_len, hdl]; omega
        have HSRC : Hid (0 < ((ys.drop (n - m)).map (Value.int .u8)).length → (some ⟨g, 8, none⟩ : Option Addr) = some ⟨g, 8, none⟩ ∧ ∃ ad, a' = some ad ∧ ∀ j v, ((ys.drop (n - m)).map (Value.int .u8))[j]? = some v → wr.cell? (ad.add j) = some v) := by
          intro h0
          rw [hdl] at h0
          refine ⟨rfl, _, ho h0, fun j v hj => ?_⟩
          simp only [List.getElem?_map, Option.map_eq_some_iff] at hj
          obtain ⟨x, hx, rfl⟩ := hj
          have hjl := (List.getElem?_eq_some_iff.1 hx).1
          rw [List.length_drop, ← HN.out] at hjl
          have h1 := (unhide HLI).grown hgr (n - m + j) (by omega)
          rw [Addr.add_lit, Nat.add_assoc, h1, List.getD_eq_getElem?_getD]
          rw [List.getElem?_drop] at hx
          rw [hx]
          rfl
        have hone := u8_one (ys.drop (n - m))
        have HDL : Hid (((ys.drop (n - m)).map (Value.int .u8)).length = Nat.min m 64) := by
          show _ = _
          rw [hdl]
          exact (Nat.min_eq_left (by omega)).symm
        have HE : Hid (∀ W, Arr W g 125 (splice (hashCells (absorbN init8 (xs ++ ys) p) r' (L + n)) 8 ((ys.drop (n - m)).map (Value.int .u8))) → IsHash W g (xs ++ ys)) := fun W hW => unhide HDONE p m r' W hpm (by omega) hmn hr hrb hW
        have hmI : ¬ (64 : Int) ≤ (m : Int) := by omega
        have hmI2 : (m : Int) < 64 := by omega
        generalize (ys.drop (n - m)).map (Value.int .u8) = CS at *
        generalize hashCells (absorbN init8 (xs ++ ys) p) r' (L + n) = HC at *
        have HPM := hide hpm
        have HDL2 := hide hdl
        clear hpm hdl ho
        go_wp2_with (first
          | (refine wpList_copyW rfl (.tmp 66) (.tmp 67) 65 65 rfl 5 Tryz.underlying65 hi8 (some ⟨g, 8, none⟩) a' 64 64 m cp rfl rfl g 8 HC 125 hH CS HDL.out (unhide HSRC) hfit hone ?_; intro w2 hE2 hW2))
        exact bodyPost_end (results_none rfl _ _ _) rfl ⟨⟨_, rfl⟩, unhide HE _ hE2, grown_then hgr (grown_wrote hW2)⟩
  · obtain ⟨u, hud⟩ : ∃ u, u = L % 64 := ⟨_, rfl⟩
    have hu1 : (L : Int) % 64 = (u : Int) := by omega
    have hu2 : (0 : Int) < (u : Int) := by omega
    have hu3 : u < 64 := by omega
    have hu4 : (u : Int) ≤ 64 := by omega
    have hu5 : (0 : Int) ≤ (u : Int) := by omega
    obtain ⟨q, hq⟩ : ∃ q, q = L / 64 := ⟨_, rfl⟩
    have HQ : Hid (L = 64 * q + u) := by show _ = _; omega
    have HRT2 : Hid (r.take u = xs.drop (64 * q)) := by
      show _ = _
      rw [hud, hq]
      exact HRT.out
    have hA1 : Arr (w.setCell ⟨g, 72, none⟩ (.int .i64 ((L : Int) + (n : Int)))) g 125 (hashCells (absorbN init8 (xs ++ ys) q) r (L + n)) := by
      have h1 := (unhide HA).set 72 (.int .i64 ((L + n : Nat) : Int))
      rw [hash_set_len hr, ← HL.out, ← hq] at h1
      rw [absorb_pre (xs := xs ++ ys) (ys := xs) q (fun j hj => List.getElem?_append_left (by rw [← HL.out]; omega))]
      exact h1
    have hg1 := grown_set w g 72 (.int .i64 ((L : Int) + (n : Int)))
    have HLI1 : Hid (∀ j, j < n → (w.setCell ⟨g, 72, none⟩ (.int .i64 ((L : Int) + (n : Int)))).cell? ⟨b, off + j, none⟩ = some (.int .u8 (ys.getD j 0))) := (unhide HLI).grown hg1
    obtain ⟨c, hc⟩ : ∃ c, c = Nat.min n (64 - u) := ⟨_, rfl⟩
    have hcn : c ≤ n := by rw [hc]; exact Nat.min_le_left _ _
    have hcu : c ≤ 64 - u := by rw [hc]; exact Nat.min_le_right _ _
    have hcc : c = n ∨ c = 64 - u := by rw [hc]; simp only [Nat.min_def]; split <;> omega
    have hcl : ((ys.take c).map (Value.int .u8)).length = c := by rw [List.length_map, List.length_take, ← HN.out]; omega
    have hcl2 : (ys.take c).length = c := by rw [List.length_take, ← HN.out]; omega
    have hfit : 8 + u + ((ys.take c).map (Value.int .u8)).length ≤ (hashCells (absorbN init8 (xs ++ ys) q) r (L + n)).length := by rw [hash_len, hcl]; omega
    have HSRC : Hid (0 < ((ys.take c).map (Value.int .u8)).length → (some ⟨g, 8 + u, none⟩ : Option Addr) = some ⟨g, 8 + u, none⟩ ∧ ∃ ad, a = some ad ∧ ∀ j v, ((ys.take c).map (Value.int .u8))[j]? = some v → (w.setCell ⟨g, 72, none⟩ (.int .i64 ((L : Int) + (n : Int)))).cell? (ad.add j) = some v) := by
      intro h0
      rw [hcl] at h0
      refine ⟨rfl, _, (unhide HLI).at_ (by omega), fun j v hj => ?_⟩
      simp only [List.getElem?_map, Option.map_eq_some_iff] at hj
      obtain ⟨x, hx, rfl⟩ := hj
      have hjl := (List.getElem?_eq_some_iff.1 hx).1
      rw [hcl2] at hjl
      rw [List.getElem?_take_of_lt hjl] at hx
      rw [Addr.add_lit, unhide HLI1 j (by omega), List.getD_eq_getElem?_getD, hx]
      rfl
    have hone := u8_one (ys.take c)
    have HSP : Hid (splice (hashCells (absorbN init8 (xs ++ ys) q) r (L + n)) (8 + u) ((ys.take c).map (Value.int .u8)) = hashCells (absorbN init8 (xs ++ ys) q) (r.take u ++ ys.take c ++ r.drop (u + c)) (L + n)) := by
      show _ = _
      rw [hash_rest (by omega), hcl2]
    have hrl : (r.take u ++ ys.take c ++ r.drop (u + c)).length = 64 := by rw [List.length_append, List.length_append, hcl2, List.length_take, List.length_drop]; omega
    have hrlb : ∀ x ∈ r.take u ++ ys.take c ++ r.drop (u + c), 0 ≤ x ∧ x ≤ 255 := fun x hx => by
      rcases List.mem_append.1 hx with hx | hx
      · rcases List.mem_append.1 hx with hx | hx
        · exact hrb x (List.mem_of_mem_take hx)
        · exact unhide HYB x (List.mem_of_mem_take hx)
      · exact hrb x (List.mem_of_mem_drop hx)
    by_cases hful : u + c < 64
    · have hfI : (u : Int) + (c : Int) < 64 := by omega
      have HFIN : Hid (∀ W, Arr W g 125 (splice (hashCells (absorbN init8 (xs ++ ys) q) r (L + n)) (8 + u) ((ys.take c).map (Value.int .u8))) → IsHash W g (xs ++ ys)) := fun W hW => by
        rw [HSP.out] at hW
        have hce : c = n := by omega
        have hLq := HQ.out
        have hq2 : q = (xs ++ ys).length / 64 := by rw [HZL.out]; omega
        refine ⟨unhide HMZ, by rw [HZL.out]; omega, _, hrl, hrlb, ?_, by rw [← hq2, HZL.out]; exact hW⟩
        have hxu : (r.take u).length = u := by rw [List.length_take]; omega
        rw [← hq2, HZL.out, show (L + n) % 64 = u + c by omega, List.take_left' (by rw [List.length_append, hxu, hcl2]), HRT2.out, List.drop_append_of_le_length (by rw [← HL.out]; omega), hce, List.take_of_length_le (by rw [← HN.out]; exact Nat.le_refl _)]
      have HDL : Hid (((ys.take c).map (Value.int .u8)).length = Nat.min n (64 - u)) := hcl.trans hc
      generalize (ys.take c).map (Value.int .u8) = CS at *
      generalize hashCells (absorbN init8 (xs ++ ys) q) r (L + n) = HC at *
      have hu6 : ¬ (64 : Int) ≤ (u : Int) := by omega
      clear hc hud hq hu
      go_enter Tryz.func39, Tryz.ntmps39
      go_wp2_with (first
        | (refine wpList_copyW rfl (.tmp 26) (.tmp 27) 65 65 rfl 5 Tryz.underlying65 hi8 (some ⟨g, 8 + u, none⟩) a (64 - u) (64 - u) n cap (by go_simp) rfl g (8 + u) HC 125 hA1 CS HDL.out (unhide HSRC) hfit hone ?_; intro w2 hE2 hW2))
      exact bodyPost_ret (results_none rfl _ _ _) rfl ⟨⟨_, rfl⟩, unhide HFIN _ hE2, grown_then hg1 (grown_wrote hW2)⟩
    · have hce : c = 64 - u := by omega
      have hfI : ¬ (u : Int) + (c : Int) < 64 := by omega
      have hn0 : 0 < n := by omega
      have hadd := (unhide HLI).at_ hn0
      subst hadd
      obtain ⟨r1, hr1⟩ : ∃ r1, r1 = r.take u ++ ys.take c ++ r.drop (u + c) := ⟨_, rfl⟩
      rw [← hr1] at hrl hrlb HSP
      have HBL : Hid (((xs ++ ys).drop (64 * q)).take 64 = r1) := by
        show _ = _
        have hLq := HQ.out
        have hxl : (xs.drop (64 * q)).length = u := by rw [List.length_drop, ← HL.out]; omega
        rw [hr1, List.drop_eq_nil_of_le (show r.length ≤ u + c by omega), List.append_nil, HRT2.out, List.drop_append_of_le_length (by rw [← HL.out]; omega), List.take_append, List.take_of_length_le (by omega), hxl, hce]
      have HDL : Hid (((ys.take c).map (Value.int .u8)).length = Nat.min n (64 - u)) := hcl.trans hc
      have hok := absorbN_ok init8_ok (xs ++ ys) q
      obtain ⟨T, hTe⟩ : ∃ T, T = absorbN init8 (xs ++ ys) q := ⟨_, rfl⟩
      rw [← hTe] at hA1 hok hfit HSP
      obtain ⟨T', hT'⟩ : ∃ T', T' = blockF T r1 := ⟨_, rfl⟩
      have HT' : Hid (absorbN init8 (xs ++ ys) (q + 1) = T') := by
        show _ = _
        rw [absorbN, HBL.out, hT', hTe]
      have HCALL : Hid (∀ W : World, Arr W g 125 (hashCells T r1 (L + n)) → TabK W → Calls Tryz.prog 61 #[.agg T.vals.toArray, .slice (some ⟨g, 8, none⟩) 64 64] W fun e w' => e = .returned (.agg T'.vals.toArray) ∧ Below W.heap.size W w') := fun W hW htW => by
        rw [hT']
        refine after_in T g 8 64 r1 W (by omega) (by decide) (fun j => ?_) (fun j hj => ?_) htW hok
        · rw [List.getD_eq_getElem?_getD]
          exact bytes_mem hrlb j
        · rw [hW.cell]
          exact hash_at_rest (by omega)
      have HP : Hid (∀ j v, T.vals[j]? = some v → (hashCells T r1 (L + n))[0 + j]? = some v) := fun j v hv => by
        have hj : j < 8 := (List.getElem?_eq_some_iff.1 hv).1
        rw [Nat.zero_add, hash_at_word hj, hv]
      have hi8T : (Tryz.prog.info? 122).map (·.size) = some T.vals.length := by kernel_rfl
      have hi8T' : (Tryz.prog.info? 122).map (·.size) = some T'.vals.length := by kernel_rfl
      have hfit2 : 0 + T'.vals.length ≤ (hashCells T r1 (L + n)).length := by rw [hash_len]; show 0 + 8 ≤ _; omega
      have honeT := H8.vals_one T'
      have HTW : Hid (∀ W, w.grownBy W (some g) → TabK W) := fun W hW => (unhide HT).grown hW hGK
      generalize (ys.take c).map (Value.int .u8) = CS at *
      generalize hHC : hashCells T r (L + n) = HC at *
      have hu6 : ¬ (64 : Int) ≤ (u : Int) := by omega
      have HCE := hide hce
      clear hc hud hq hu hTe hT' hr1 hHC hce hr hrb
      go_enter Tryz.func39, Tryz.ntmps39
      go_wp2_with (first
        | (refine wpList_copyW rfl (.tmp 26) (.tmp 27) 65 65 rfl 5 Tryz.underlying65 hi8 (some ⟨g, 8 + u, none⟩) (some ⟨b, off, none⟩) (64 - u) (64 - u) n cap (by go_simp) rfl g (8 + u) HC 125 hA1 CS HDL.out (unhide HSRC) hfit hone ?_; intro w2 hE2 hW2))
      rw [HSP.out] at hE2
      have hg2 := grown_then hg1 (grown_wrote hW2)
      have hE2d := hE2.drew
      clear hW2 hA1 hg1 h72 hf72
      refine wp_region_any (by kernel_rfl) ?_
      change wpAny _ _ _ _ _ _ _ (World.drew _)
      refine wpAny_gen fun fr hfr => ?_
      have hs : fr.tmps.size = 69 := by rw [hfr]; rfl
      have h0 : fr.tmps[0]'(by rw [hs]; decide) = .pointer (some ⟨g, 0, none⟩) := by simp only [hfr]; rfl
      have HFR := hide hfr
      clear hfr
      refine wpAny_val 0 33 (.pointer (some ⟨g, 0, none⟩)) rfl rfl (by kernel_rfl) (by kernel_rfl) (by kernel_rfl) (fun _ _ _ h => h) (Or.inl ⟨by rfl, by intro w; go_simp⟩) ?_
      refine wpAny_val 1 34 (.pointer (some ⟨g, 0, none⟩)) rfl rfl (by kernel_rfl) (by kernel_rfl) (by kernel_rfl) (fun _ _ _ h => h) (Or.inl ⟨by rfl, by intro w; go_simp⟩) ?_
      refine wpAny_val 2 35 (.pointer (some ⟨g, 0, none⟩)) rfl rfl (by kernel_rfl) (by kernel_rfl) (by kernel_rfl) (fun _ _ _ h => h) (Or.inl ⟨by rfl, by intro w; go_simp⟩) ?_
      refine wpAny_val 3 36 (.pointer (some ⟨g, 0, none⟩)) rfl rfl (by kernel_rfl) (by kernel_rfl) (by kernel_rfl) (fun _ _ _ h => h) (Or.inl ⟨by rfl, by intro w; go_simp⟩) ?_
      refine wpAny_val 5 38 (.pointer (some ⟨g, 0, none⟩)) rfl rfl (by kernel_rfl) (by kernel_rfl) (by kernel_rfl) (fun _ _ _ h => h) (Or.inl ⟨by rfl, by intro w; go_simp⟩) ?_
      refine wpAny_val 6 39 (.pointer (some ⟨g, 0, none⟩)) rfl rfl (by kernel_rfl) (by kernel_rfl) (by kernel_rfl) (fun _ _ _ h => h) (Or.inl ⟨by rfl, by intro w; go_simp⟩) ?_
      refine wpAny_val 7 40 (.pointer (some ⟨g, 8, none⟩)) rfl rfl (by kernel_rfl) (by kernel_rfl) (by kernel_rfl) (fun _ _ _ h => h) (Or.inl ⟨by rfl, by intro w; go_simp⟩) ?_
      refine wpAny_val 8 41 (.slice (some ⟨g, 8, none⟩) 64 64) rfl rfl (by kernel_rfl) (by kernel_rfl) (by kernel_rfl) (fun _ _ _ h => h) (Or.inl ⟨by rfl, by intro w; go_simp⟩) ?_
      refine wpAny_one 4 (by kernel_rfl) rfl rfl fun K hK => ?_
      refine wp_loadPart 37 (.tmp 36) 122 rfl rfl T.vals (by go_simp) hE2d (unhide HP) Tryz.underlying122 hi8T ?_
      refine hK.go _ _ ?_
      clear hK K
      refine wpAny_one 9 (by kernel_rfl) rfl rfl fun K hK => ?_
      refine ⟨?_⟩
      go_simp
      refine (unhide HCALL w2.drew hE2d (unhide HTW w2 hg2)).mono ?_
      rintro e w5 ⟨rfl, hb5⟩
      refine hK.go _ _ ?_
      clear hK K
      have hb5' : Below w2.heap.size w2 w5 := ⟨hb5.os, hb5.tape, hb5.output, hb5.size, hb5.block⟩
      have hH5 := hE2.below hb5'
      refine wpAny_val 10 43 (.pointer (some ⟨g, 0, none⟩)) rfl rfl (by kernel_rfl) (by kernel_rfl) (by kernel_rfl) (fun _ _ _ h => h) (Or.inl ⟨by rfl, by intro w; go_simp⟩) ?_
      refine wpAny_val 11 44 (.pointer (some ⟨g, 0, none⟩)) rfl rfl (by kernel_rfl) (by kernel_rfl) (by kernel_rfl) (fun _ _ _ h => h) (Or.inl ⟨by rfl, by intro w; go_simp⟩) ?_
      refine wpAny_one 12 (by kernel_rfl) rfl rfl fun K hK => ?_
      refine wp_storePart (.tmp 44) (.tmp 42) 122 rfl rfl T'.vals (by go_simp) (by go_simp) hH5 hi8T' hfit2 honeT ?_
      intro w6 hH6 hw6
      rw [hash_words] at hH6
      have hg6 := grown_then hg2 (grown_then (grown_belowS g hb5') (grown_wrote hw6))
      refine hK.go _ _ ?_
      clear hK K
      refine wpAny_done (by kernel_rfl) ?_ _
      have hfr := HFR.out
      clear HFR h0 hs
      subst hfr
      rw [← HT'.out] at hH6
      clear hH5 hw6 hb5' hb5 hE2d hE2 hg2
      have hcI : (c : Int) ≤ (n : Int) := by omega
      have hcI2 : (c : Int) ≤ (cap : Int) := by omega
      have hc0 : (0 : Int) ≤ (c : Int) := by omega
      by_cases hcap : cap = c
      · have HCAP := hide hcap
        have hcN : cap - c = 0 := by omega
        clear hcap
        go_wp2_with fail
        go_loopw [1] (fun v wr => ∃ (p m : Nat) (a' : Option Addr) (cp : Nat), 64 * p + m = L + n ∧ v = .slice a' m cp ∧ m ≤ cp ∧ cp ≤ 9223372036854775807 ∧ m ≤ n ∧ (0 < m → a' = some ⟨b, off + (n - m), none⟩) ∧ (∃ r : List Int, r.length = 64 ∧ (∀ x ∈ r, 0 ≤ x ∧ x ≤ 255) ∧ Arr wr g 125 (hashCells (absorbN init8 (xs ++ ys) p) r (L + n))) ∧ w.grownBy wr (some g)) (fun v _ => sliceLen v)
        case atStart => exact ⟨q + 1, n - c, some ⟨b, off, none⟩, 0, by have h1 := HQ.out; have h2 := HCE.out; omega, rfl, by have h3 := HCAP.out; omega, by omega, by omega, fun h => by have h3 := HCAP.out; omega, ⟨r1, hrl, hrlb, hH6⟩, hg6⟩
        case round =>
          clear hH6 hg6 hrl hrlb hu1 hu2 hu3 hu4 hu5 hu6 hfI hcI hcI2 hc0 hcN hcl hcl2 hfit hfit2 hone honeT hi8T hi8T' hcn hcu hcc hful hok hn0
          obtain ⟨p, m, a', cp, hpm, rfl, hmc, hcp, hmn, ho, ⟨r', hr, hrb, hH⟩, hgr⟩ := hrel
          by_cases hm64 : 64 ≤ m
          · have ho' := ho (by omega)
            subst ho'
            clear ho
            obtain ⟨o, hO⟩ : ∃ o, o = off + (n - m) := ⟨_, rfl⟩
            rw [← hO]
            have HO := hide hO
            clear hO
            have hok := absorbN_ok init8_ok (xs ++ ys) p
            obtain ⟨T, hTe⟩ : ∃ T, T = absorbN init8 (xs ++ ys) p := ⟨_, rfl⟩
            rw [← hTe] at hH hok
            obtain ⟨T', hT'⟩ : ∃ T', T' = blockF T (((xs ++ ys).drop (64 * p)).take 64) := ⟨_, rfl⟩
            have HT' : Hid (absorbN init8 (xs ++ ys) (p + 1) = T') := by
              show _ = _
              rw [absorbN, hT', hTe]
            have hcall : ∀ W : World, W.heap = wr.heap → Calls Tryz.prog 61 #[.agg T.vals.toArray, .slice (some ⟨b, o, none⟩) 64 cp] W fun e w' => e = .returned (.agg (blockF T (((xs ++ ys).drop (64 * p)).take 64)).vals.toArray) ∧ Below W.heap.size W w' := fun W hW' => by
              have ec : ∀ a, W.cell? a = wr.cell? a := fun a => by unfold World.cell?; rw [hW']
              refine after_in T b o cp (((xs ++ ys).drop (64 * p)).take 64) W (by omega) hcp (block_bytes (unhide HMZ) p) (fun j hj => ?_) (fun i hi => by rw [ec]; exact (unhide HT).grown hgr hGK i hi) hok
              have h1 := (unhide HLI).grown hgr (n - m + j) (by omega)
              rw [ec, HO.out, block_at hj, List.getD_eq_getElem?_getD, List.getElem?_append_right (by rw [← HL.out]; omega), ← HL.out, show 64 * p + j - L = n - m + j by omega, ← List.getD_eq_getElem?_getD, Nat.add_assoc, ← h1]
            rw [← hT'] at hcall
            have HCALL := hide hcall
            have hpart : ∀ j v, T.vals[j]? = some v → (hashCells T r' (L + n))[0 + j]? = some v := fun j v hv => by
              have hj : j < 8 := (List.getElem?_eq_some_iff.1 hv).1
              rw [Nat.zero_add, hash_at_word hj, hv]
            have HP := hide hpart
            have hi8T : (Tryz.prog.info? 122).map (·.size) = some T.vals.length := by kernel_rfl
            have hi8T' : (Tryz.prog.info? 122).map (·.size) = some T'.vals.length := by kernel_rfl
            have hfit : 0 + T'.vals.length ≤ (hashCells T r' (L + n)).length := by rw [hash_len]; show 0 + 8 ≤ _; omega
            have honeT := H8.vals_one T'
            have hHd := hH.drew
            have hHlt := hH.lt
            clear hcall hT' hTe hpart
            have hmI : (64 : Int) ≤ (m : Int) := by omega
            have hcI : (64 : Int) ≤ (cp : Int) := by omega
            go_wp2_with fail
            refine wp_region_any (by kernel_rfl) ?_
            change wpAny _ _ _ _ _ _ _ (World.drew _)
            refine wpAny_gen fun fr hfr => ?_
            have hs : fr.tmps.size = 69 := by rw [hfr]; rfl
            have h0 : fr.tmps[0]'(by rw [hs]; decide) = .pointer (some ⟨g, 0, none⟩) := by simp only [hfr]; rfl
            have h1 : fr.tmps[1]'(by rw [hs]; decide) = .slice (some ⟨b, o, none⟩) m cp := by simp only [hfr]; rfl
            have HFR := hide hfr
            clear hfr
            refine wpAny_val 0 51 (.pointer (some ⟨g, 0, none⟩)) rfl rfl (by kernel_rfl) (by kernel_rfl) (by kernel_rfl) (fun _ _ _ h => h) (Or.inl ⟨by rfl, by intro w; go_simp⟩) ?_
            refine wpAny_val 1 52 (.pointer (some ⟨g, 0, none⟩)) rfl rfl (by kernel_rfl) (by kernel_rfl) (by kernel_rfl) (fun _ _ _ h => h) (Or.inl ⟨by rfl, by intro w; go_simp⟩) ?_
            refine wpAny_val 2 53 (.pointer (some ⟨g, 0, none⟩)) rfl rfl (by kernel_rfl) (by kernel_rfl) (by kernel_rfl) (fun _ _ _ h => h) (Or.inl ⟨by rfl, by intro w; go_simp⟩) ?_
            refine wpAny_val 3 54 (.pointer (some ⟨g, 0, none⟩)) rfl rfl (by kernel_rfl) (by kernel_rfl) (by kernel_rfl) (fun _ _ _ h => h) (Or.inl ⟨by rfl, by intro w; go_simp⟩) ?_
            refine wpAny_val 5 56 (.slice (some ⟨b, o, none⟩) m cp) rfl rfl (by kernel_rfl) (by kernel_rfl) (by kernel_rfl) (fun _ _ _ h => h) (Or.inl ⟨by rfl, by intro w; go_simp⟩) ?_
            refine wpAny_val 6 57 (.slice (some ⟨b, o, none⟩) 64 cp) rfl rfl (by kernel_rfl) (by kernel_rfl) (by kernel_rfl) (fun _ _ _ h => h) (Or.inl ⟨by rfl, by intro w; go_simp⟩) ?_
            refine wpAny_one 4 (by kernel_rfl) rfl rfl fun K hK => ?_
            refine wp_loadPart 55 (.tmp 54) 122 rfl rfl T.vals (by go_simp) hHd (unhide HP) Tryz.underlying122 hi8T ?_
            refine hK.go _ _ ?_
            clear hK K
            refine wpAny_one 7 (by kernel_rfl) rfl rfl fun K hK => ?_
            refine ⟨?_⟩
            go_simp
            refine (unhide HCALL wr.drew rfl).mono ?_
            rintro e w5 ⟨rfl, hb5⟩
            refine hK.go _ _ ?_
            clear hK K
            have hb5' : Below wr.heap.size wr w5 := ⟨hb5.os, hb5.tape, hb5.output, hb5.size, hb5.block⟩
            have hH5 := hH.below hb5'
            refine wpAny_val 8 59 (.pointer (some ⟨g, 0, none⟩)) rfl rfl (by kernel_rfl) (by kernel_rfl) (by kernel_rfl) (fun _ _ _ h => h) (Or.inl ⟨by rfl, by intro w; go_simp⟩) ?_
            refine wpAny_val 9 60 (.pointer (some ⟨g, 0, none⟩)) rfl rfl (by kernel_rfl) (by kernel_rfl) (by kernel_rfl) (fun _ _ _ h => h) (Or.inl ⟨by rfl, by intro w; go_simp⟩) ?_
            refine wpAny_one 10 (by kernel_rfl) rfl rfl fun K hK => ?_
            refine wp_storePart (.tmp 60) (.tmp 58) 122 rfl rfl T'.vals (by go_simp) (by go_simp) hH5 hi8T' hfit honeT ?_
            intro w6 hH6 hw6
            rw [hash_words] at hH6
            have hg6 := grown_then hgr (grown_then (grown_belowS g hb5') (grown_wrote hw6))
            refine hK.go _ _ ?_
            clear hK K
            refine wpAny_done (by kernel_rfl) ?_ _
            have hfr := HFR.out
            clear HFR h0 h1 hs
            subst hfr
            have HEND : Hid (Arr w6 g 125 (hashCells (absorbN init8 (xs ++ ys) (p + 1)) r' (L + n))) := by
              show Arr _ _ _ _
              rw [HT'.out]
              exact hH6
            clear hH6 hH5 hw6 hb5' hb5 hHd hH hgr
            by_cases hc64 : cp = 64
            · subst hc64
              obtain rfl : m = 64 := by omega
              go_wp2
              exact ⟨⟨p + 1, 0, _, 0, by omega, rfl, by omega, by omega, by omega, fun h => by omega, ⟨r', hr, hrb, unhide HEND⟩, hg6⟩, by simp [sliceLen]⟩
            · have hcN : ¬ cp - 64 = 0 := by omega
              go_wp2
              have hO := HO.out
              exact ⟨⟨p + 1, m - 64, some ⟨b, o + 64, none⟩, cp - 64, by omega, rfl, by omega, by omega, by omega, fun _ => by rw [show o + 64 = off + (n - (m - 64)) by omega], ⟨r', hr, hrb, unhide HEND⟩, hg6⟩, by simp [sliceLen]; omega⟩
          · have hdl : ((ys.drop (n - m)).map (Value.int .u8)).length = m := by rw [List.length_map, List.length_drop, ← HN.out]; omega
            have hfit : 8 + ((ys.drop (n - m)).map (Value.int .u8)).length ≤ (hashCells (absorbN init8 (xs ++ ys) p) r' (L + n)).length := by rw [hash_len, hdl]; omega
            have HSRC : Hid (0 < ((ys.drop (n - m)).map (Value.int .u8)).length → (some ⟨g, 8, none⟩ : Option Addr) = some ⟨g, 8, none⟩ ∧ ∃ ad, a' = some ad ∧ ∀ j v, ((ys.drop (n - m)).map (Value.int .u8))[j]? = some v → wr.cell? (ad.add j) = some v) := by
              intro h0
              rw [hdl] at h0
              refine ⟨rfl, _, ho h0, fun j v hj => ?_⟩
              simp only [List.getElem?_map, Option.map_eq_some_iff] at hj
              obtain ⟨x, hx, rfl⟩ := hj
              have hjl := (List.getElem?_eq_some_iff.1 hx).1
              rw [List.length_drop, ← HN.out] at hjl
              have h1 := (unhide HLI).grown hgr (n - m + j) (by omega)
              rw [Addr.add_lit, Nat.add_assoc, h1, List.getD_eq_getElem?_getD]
              rw [List.getElem?_drop] at hx
              rw [hx]
              rfl
            have hone := u8_one (ys.drop (n - m))
            have HDL : Hid (((ys.drop (n - m)).map (Value.int .u8)).length = Nat.min m 64) := by
              show _ = _
              rw [hdl]
              exact (Nat.min_eq_left (by omega)).symm
            have HE : Hid (∀ W, Arr W g 125 (splice (hashCells (absorbN init8 (xs ++ ys) p) r' (L + n)) 8 ((ys.drop (n - m)).map (Value.int .u8))) → IsHash W g (xs ++ ys)) := fun W hW => unhide HDONE p m r' W hpm (by omega) hmn hr hrb hW
            have hmI : ¬ (64 : Int) ≤ (m : Int) := by omega
            have hmI2 : (m : Int) < 64 := by omega
            generalize (ys.drop (n - m)).map (Value.int .u8) = CS at *
            generalize hashCells (absorbN init8 (xs ++ ys) p) r' (L + n) = HC at *
            have HPM := hide hpm
            have HDL2 := hide hdl
            clear hpm hdl ho
            go_wp2_with (first
              | (refine wpList_copyW rfl (.tmp 66) (.tmp 67) 65 65 rfl 5 Tryz.underlying65 hi8 (some ⟨g, 8, none⟩) a' 64 64 m cp rfl rfl g 8 HC 125 hH CS HDL.out (unhide HSRC) hfit hone ?_; intro w2 hE2 hW2))
            exact bodyPost_end (results_none rfl _ _ _) rfl ⟨⟨_, rfl⟩, unhide HE _ hE2, grown_then hgr (grown_wrote hW2)⟩
      · have hcN : ¬ cap - c = 0 := by omega
        have hcN2 : ¬ (cap : Int) ≤ (c : Int) := by omega
        go_wp2_with fail
        go_loopw [1] (fun v wr => ∃ (p m : Nat) (a' : Option Addr) (cp : Nat), 64 * p + m = L + n ∧ v = .slice a' m cp ∧ m ≤ cp ∧ cp ≤ 9223372036854775807 ∧ m ≤ n ∧ (0 < m → a' = some ⟨b, off + (n - m), none⟩) ∧ (∃ r : List Int, r.length = 64 ∧ (∀ x ∈ r, 0 ≤ x ∧ x ≤ 255) ∧ Arr wr g 125 (hashCells (absorbN init8 (xs ++ ys) p) r (L + n))) ∧ w.grownBy wr (some g)) (fun v _ => sliceLen v)
        case atStart => exact ⟨q + 1, n - c, some ⟨b, off + c, none⟩, cap - c, by have h1 := HQ.out; have h2 := HCE.out; omega, rfl, by omega, by omega, by omega, fun _ => by rw [show n - (n - c) = c by omega], ⟨r1, hrl, hrlb, hH6⟩, hg6⟩
        case round =>
          clear hH6 hg6 hrl hrlb hu1 hu2 hu3 hu4 hu5 hu6 hfI hcI hcI2 hc0 hcN hcl hcl2 hfit hfit2 hone honeT hi8T hi8T' hcn hcu hcc hful hok hn0 hcN2 hcap
          obtain ⟨p, m, a', cp, hpm, rfl, hmc, hcp, hmn, ho, ⟨r', hr, hrb, hH⟩, hgr⟩ := hrel
          by_cases hm64 : 64 ≤ m
          · have ho' := ho (by omega)
            subst ho'
            clear ho
            obtain ⟨o, hO⟩ : ∃ o, o = off + (n - m) := ⟨_, rfl⟩
            rw [← hO]
            have HO := hide hO
            clear hO
            have hok := absorbN_ok init8_ok (xs ++ ys) p
            obtain ⟨T, hTe⟩ : ∃ T, T = absorbN init8 (xs ++ ys) p := ⟨_, rfl⟩
            rw [← hTe] at hH hok
            obtain ⟨T', hT'⟩ : ∃ T', T' = blockF T (((xs ++ ys).drop (64 * p)).take 64) := ⟨_, rfl⟩
            have HT' : Hid (absorbN init8 (xs ++ ys) (p + 1) = T') := by
              show _ = _
              rw [absorbN, hT', hTe]
            have hcall : ∀ W : World, W.heap = wr.heap → Calls Tryz.prog 61 #[.agg T.vals.toArray, .slice (some ⟨b, o, none⟩) 64 cp] W fun e w' => e = .returned (.agg (blockF T (((xs ++ ys).drop (64 * p)).take 64)).vals.toArray) ∧ Below W.heap.size W w' := fun W hW' => by
              have ec : ∀ a, W.cell? a = wr.cell? a := fun a => by unfold World.cell?; rw [hW']
              refine after_in T b o cp (((xs ++ ys).drop (64 * p)).take 64) W (by omega) hcp (block_bytes (unhide HMZ) p) (fun j hj => ?_) (fun i hi => by rw [ec]; exact (unhide HT).grown hgr hGK i hi) hok
              have h1 := (unhide HLI).grown hgr (n - m + j) (by omega)
              rw [ec, HO.out, block_at hj, List.getD_eq_getElem?_getD, List.getElem?_append_right (by rw [← HL.out]; omega), ← HL.out, show 64 * p + j - L = n - m + j by omega, ← List.getD_eq_getElem?_getD, Nat.add_assoc, ← h1]
            rw [← hT'] at hcall
            have HCALL := hide hcall
            have hpart : ∀ j v, T.vals[j]? = some v → (hashCells T r' (L + n))[0 + j]? = some v := fun j v hv => by
              have hj : j < 8 := (List.getElem?_eq_some_iff.1 hv).1
              rw [Nat.zero_add, hash_at_word hj, hv]
            have HP := hide hpart
            have hi8T : (Tryz.prog.info? 122).map (·.size) = some T.vals.length := by kernel_rfl
            have hi8T' : (Tryz.prog.info? 122).map (·.size) = some T'.vals.length := by kernel_rfl
            have hfit : 0 + T'.vals.length ≤ (hashCells T r' (L + n)).length := by rw [hash_len]; show 0 + 8 ≤ _; omega
            have honeT := H8.vals_one T'
            have hHd := hH.drew
            have hHlt := hH.lt
            clear hcall hT' hTe hpart
            have hmI : (64 : Int) ≤ (m : Int) := by omega
            have hcI : (64 : Int) ≤ (cp : Int) := by omega
            go_wp2_with fail
            refine wp_region_any (by kernel_rfl) ?_
            change wpAny _ _ _ _ _ _ _ (World.drew _)
            refine wpAny_gen fun fr hfr => ?_
            have hs : fr.tmps.size = 69 := by rw [hfr]; rfl
            have h0 : fr.tmps[0]'(by rw [hs]; decide) = .pointer (some ⟨g, 0, none⟩) := by simp only [hfr]; rfl
            have h1 : fr.tmps[1]'(by rw [hs]; decide) = .slice (some ⟨b, o, none⟩) m cp := by simp only [hfr]; rfl
            have HFR := hide hfr
            clear hfr
            refine wpAny_val 0 51 (.pointer (some ⟨g, 0, none⟩)) rfl rfl (by kernel_rfl) (by kernel_rfl) (by kernel_rfl) (fun _ _ _ h => h) (Or.inl ⟨by rfl, by intro w; go_simp⟩) ?_
            refine wpAny_val 1 52 (.pointer (some ⟨g, 0, none⟩)) rfl rfl (by kernel_rfl) (by kernel_rfl) (by kernel_rfl) (fun _ _ _ h => h) (Or.inl ⟨by rfl, by intro w; go_simp⟩) ?_
            refine wpAny_val 2 53 (.pointer (some ⟨g, 0, none⟩)) rfl rfl (by kernel_rfl) (by kernel_rfl) (by kernel_rfl) (fun _ _ _ h => h) (Or.inl ⟨by rfl, by intro w; go_simp⟩) ?_
            refine wpAny_val 3 54 (.pointer (some ⟨g, 0, none⟩)) rfl rfl (by kernel_rfl) (by kernel_rfl) (by kernel_rfl) (fun _ _ _ h => h) (Or.inl ⟨by rfl, by intro w; go_simp⟩) ?_
            refine wpAny_val 5 56 (.slice (some ⟨b, o, none⟩) m cp) rfl rfl (by kernel_rfl) (by kernel_rfl) (by kernel_rfl) (fun _ _ _ h => h) (Or.inl ⟨by rfl, by intro w; go_simp⟩) ?_
            refine wpAny_val 6 57 (.slice (some ⟨b, o, none⟩) 64 cp) rfl rfl (by kernel_rfl) (by kernel_rfl) (by kernel_rfl) (fun _ _ _ h => h) (Or.inl ⟨by rfl, by intro w; go_simp⟩) ?_
            refine wpAny_one 4 (by kernel_rfl) rfl rfl fun K hK => ?_
            refine wp_loadPart 55 (.tmp 54) 122 rfl rfl T.vals (by go_simp) hHd (unhide HP) Tryz.underlying122 hi8T ?_
            refine hK.go _ _ ?_
            clear hK K
            refine wpAny_one 7 (by kernel_rfl) rfl rfl fun K hK => ?_
            refine ⟨?_⟩
            go_simp
            refine (unhide HCALL wr.drew rfl).mono ?_
            rintro e w5 ⟨rfl, hb5⟩
            refine hK.go _ _ ?_
            clear hK K
            have hb5' : Below wr.heap.size wr w5 := ⟨hb5.os, hb5.tape, hb5.output, hb5.size, hb5.block⟩
            have hH5 := hH.below hb5'
            refine wpAny_val 8 59 (.pointer (some ⟨g, 0, none⟩)) rfl rfl (by kernel_rfl) (by kernel_rfl) (by kernel_rfl) (fun _ _ _ h => h) (Or.inl ⟨by rfl, by intro w; go_simp⟩) ?_
            refine wpAny_val 9 60 (.pointer (some ⟨g, 0, none⟩)) rfl rfl (by kernel_rfl) (by kernel_rfl) (by kernel_rfl) (fun _ _ _ h => h) (Or.inl ⟨by rfl, by intro w; go_simp⟩) ?_
            refine wpAny_one 10 (by kernel_rfl) rfl rfl fun K hK => ?_
            refine wp_storePart (.tmp 60) (.tmp 58) 122 rfl rfl T'.vals (by go_simp) (by go_simp) hH5 hi8T' hfit honeT ?_
            intro w6 hH6 hw6
            rw [hash_words] at hH6
            have hg6 := grown_then hgr (grown_then (grown_belowS g hb5') (grown_wrote hw6))
            refine hK.go _ _ ?_
            clear hK K
            refine wpAny_done (by kernel_rfl) ?_ _
            have hfr := HFR.out
            clear HFR h0 h1 hs
            subst hfr
            have HEND : Hid (Arr w6 g 125 (hashCells (absorbN init8 (xs ++ ys) (p + 1)) r' (L + n))) := by
              show Arr _ _ _ _
              rw [HT'.out]
              exact hH6
            clear hH6 hH5 hw6 hb5' hb5 hHd hH hgr
            by_cases hc64 : cp = 64
            · subst hc64
              obtain rfl : m = 64 := by omega
              go_wp2
              exact ⟨⟨p + 1, 0, _, 0, by omega, rfl, by omega, by omega, by omega, fun h => by omega, ⟨r', hr, hrb, unhide HEND⟩, hg6⟩, by simp [sliceLen]⟩
            · have hcN : ¬ cp - 64 = 0 := by omega
              go_wp2
              have hO := HO.out
              exact ⟨⟨p + 1, m - 64, some ⟨b, o + 64, none⟩, cp - 64, by omega, rfl, by omega, by omega, by omega, fun _ => by rw [show o + 64 = off + (n - (m - 64)) by omega], ⟨r', hr, hrb, unhide HEND⟩, hg6⟩, by simp [sliceLen]; omega⟩
          · have hdl : ((ys.drop (n - m)).map (Value.int .u8)).length = m := by rw [List.length_map, List.length_drop, ← HN.out]; omega
            have hfit : 8 + ((ys.drop (n - m)).map (Value.int .u8)).length ≤ (hashCells (absorbN init8 (xs ++ ys) p) r' (L + n)).length := by rw [hash_len, hdl]; omega
            have HSRC : Hid (0 < ((ys.drop (n - m)).map (Value.int .u8)).length → (some ⟨g, 8, none⟩ : Option Addr) = some ⟨g, 8, none⟩ ∧ ∃ ad, a' = some ad ∧ ∀ j v, ((ys.drop (n - m)).map (Value.int .u8))[j]? = some v → wr.cell? (ad.add j) = some v) := by
              intro h0
              rw [hdl] at h0
              refine ⟨rfl, _, ho h0, fun j v hj => ?_⟩
              simp only [List.getElem?_map, Option.map_eq_some_iff] at hj
              obtain ⟨x, hx, rfl⟩ := hj
              have hjl := (List.getElem?_eq_some_iff.1 hx).1
              rw [List.length_drop, ← HN.out] at hjl
              have h1 := (unhide HLI).grown hgr (n - m + j) (by omega)
              rw [Addr.add_lit, Nat.add_assoc, h1, List.getD_eq_getElem?_getD]
              rw [List.getElem?_drop] at hx
              rw [hx]
              rfl
            have hone := u8_one (ys.drop (n - m))
            have HDL : Hid (((ys.drop (n - m)).map (Value.int .u8)).length = Nat.min m 64) := by
              show _ = _
              rw [hdl]
              exact (Nat.min_eq_left (by omega)).symm
            have HE : Hid (∀ W, Arr W g 125 (splice (hashCells (absorbN init8 (xs ++ ys) p) r' (L + n)) 8 ((ys.drop (n - m)).map (Value.int .u8))) → IsHash W g (xs ++ ys)) := fun W hW => unhide HDONE p m r' W hpm (by omega) hmn hr hrb hW
            have hmI : ¬ (64 : Int) ≤ (m : Int) := by omega
            have hmI2 : (m : Int) < 64 := by omega
            generalize (ys.drop (n - m)).map (Value.int .u8) = CS at *
            generalize hashCells (absorbN init8 (xs ++ ys) p) r' (L + n) = HC at *
            have HPM := hide hpm
            have HDL2 := hide hdl
            clear hpm hdl ho
            go_wp2_with (first
              | (refine wpList_copyW rfl (.tmp 66) (.tmp 67) 65 65 rfl 5 Tryz.underlying65 hi8 (some ⟨g, 8, none⟩) a' 64 64 m cp rfl rfl g 8 HC 125 hH CS HDL.out (unhide HSRC) hfit hone ?_; intro w2 hE2 hW2))
            exact bodyPost_end (results_none rfl _ _ _) rfl ⟨⟨_, rfl⟩, unhide HE _ hE2, grown_then hgr (grown_wrote hW2)⟩
end Go.Proofs.YtfhfobikbfbajaaGreatDoor
