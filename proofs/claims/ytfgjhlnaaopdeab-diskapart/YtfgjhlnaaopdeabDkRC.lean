/- The document's Crash. -/
import Derived.Test.YtfgjhlnaaopdeabDkRW
namespace Go.Proofs.Ytfgjhlnaaopdeab
open Go.RowKit Go.Maps

def crashL (la ws : Ats) (ks : List Int) (fate : Nat → Int) : Nat → Ats
  | 0 => la
  | k + 1 => if 1 ≤ min (fate k) (ofN ws (ks.getD k 0)).length then putL (crashL la ws ks fate k) (ks.getD k 0) (pickW (ofN ws (ks.getD k 0)) (fate k)) else crashL la ws ks fate k
theorem crashL_len (la ws : Ats) (ks : List Int) (fate : Nat → Int) : ∀ k, (crashL la ws ks fate k).length ≤ la.length + k
  | 0 => Nat.le_refl _
  | k + 1 => by
    have ih := crashL_len la ws ks fate k
    rw [crashL]
    split
    · have := putL_len (crashL la ws ks fate k) (ks.getD k 0) (pickW (ofN ws (ks.getD k 0)) (fate k))
      omega
    · omega
theorem crashL_keys {D : AD} {R : RD} (fate : Nat → Int) : ∀ k, k ≤ D.keys.length → crashL R.la R.wr (D.keys.map fun i : Nat => (i : Int)) fate k = R.laAfter D.keys fate k
  | 0, _ => rfl
  | k + 1, hk => by
    have ih := crashL_keys (D := D) (R := R) fate k (by omega)
    have e : (D.keys.map fun i : Nat => (i : Int)).getD k 0 = ((D.keys.getD k 0 : Nat) : Int) := by
      rw [List.getD_eq_getElem?_getD, List.getElem?_map, List.getElem?_eq_getElem (by omega), List.getD_eq_getElem?_getD, List.getElem?_eq_getElem (by omega)]
      rfl
    rw [crashL, RD.laAfter, e, ih]
theorem ofN_split (ws : Ats) (j : Nat) (q : Int) : ofN ws q = ofN (ws.take j) q ++ ofN (ws.drop j) q := by rw [← ofN_append, List.take_append_drop]
theorem ofN_step {ws : Ats} {j : Nat} (hj : j < ws.length) (q : Int) : ofN (ws.take (j + 1)) q = if (ws.getD j dA).1 = q then ofN (ws.take j) q ++ [(ws.getD j dA).2] else ofN (ws.take j) q := by
  rw [take_snoc2 hj, ofN_append]
  generalize ws.getD j dA = e
  by_cases h : e.1 = q
  · rw [if_pos h]; congr 1; simp [ofN, h]
  · rw [if_neg h]
    have : ofN [e] q = [] := by simp [ofN, h]
    rw [this, List.append_nil]
/-- How far the document counts. -/
theorem pick_end {ws : Ats} {j s : Nat} {q f : Int} (hj : j ≤ ws.length) (hs : s = (ofN (ws.take j) q).length) (hf : s = 0 ∨ (s : Int) ≤ f) (he : j = ws.length ∨ ¬ (s : Int) < f) :
    (0 < s ↔ 1 ≤ min f (ofN ws q).length) ∧ (0 < s → (ofN (ws.take j) q).getD (s - 1) zsec = pickW (ofN ws q) f) := by
  have hsp := ofN_split ws j q
  have hlen : (ofN ws q).length = s + (ofN (ws.drop j) q).length := by rw [hsp, List.length_append, hs]
  have hfull : j = ws.length → (ofN ws q).length = s := fun e => by rw [hs, e, List.take_length]
  have hmin : 0 < s → (min f (ofN ws q).length).toNat = s := fun h0 => by
    rcases he with he | he
    · have := hfull he; omega
    · omega
  refine ⟨⟨fun h0 => by have := hmin h0; omega, fun h1 => ?_⟩, fun h0 => ?_⟩
  · rcases he with he | he
    · have := hfull he; omega
    · omega
  · unfold pickW
    rw [hmin h0]
    rw [hsp, List.getD_eq_getElem?_getD, List.getD_eq_getElem?_getD, List.getElem?_append_left (by omega)]
theorem OwnI.other {w w' : World} {B g : Nat} {v : Value} {ks : List Int} {cs : Array Value} {t : TypeId} {m : Nat × Nat} (h : OwnI w B v ks) (hg : w.grownBy w' (some g)) (hc : w.heap[g]? = some (.cells cs t m)) (ht : t ≠ 3) : OwnI w' B v ks := by
  refine World.ownsRow.kept h hg ?_
  rcases h.2 with ⟨rfl, _⟩ | ⟨g', cap, cur, rfl, _, hgg, _⟩
  · exact Or.inl rfl
  · refine Or.inr fun e => ?_
    simp only [Value.ownBlock, Option.some.injEq] at e
    subst e
    rw [hgg] at hc
    simp only [Option.some.injEq, Obj.cells.injEq] at hc
    exact ht hc.2.1.symm
/-- Behind k of the sectors. -/
def Cr (w wr : World) (B k m : Nat) (n rd wt fl : Int) (a2 : Option Addr) (c2 : Nat) (v : Value) (ks : List Int) (la ws : Ats) (fate : Nat → Int) : Prop :=
  ∃ a3 n3 c3, IsAts wr (.slice a3 n3 c3) (crashL la ws ks fate k) ∧ Arr wr w.heap.size 85 (rdC n a3 n3 c3 a2 m c2 rd wt fl) ∧ Arr wr (w.heap.size + 1) 85 z36 ∧ Below w.heap.size w wr ∧ OwnI wr B v ks
set_option maxRecDepth 100000 in
set_option maxHeartbeats 4000000 in
theorem rcrash_calls {w : World} {a1 a2 : Option Addr} {n1 n2 c1 c2 : Nat} {n rd wt fl : Int} {l ws : Ats} {vf : Value} {xs : List Int} (ha : IsAts w (.slice a1 n1 c1) l) (h : IsAts w (.slice a2 n2 c2) ws) (hF : IsI w vf xs) (hl : l.length + ws.length ≤ 549755813888) :
    Calls Try.prog 44 #[.agg #[.int .i64 n, .slice a1 n1 c1, .slice a2 n2 c2, .int .i64 rd, .int .i64 wt, .int .i64 fl], vf] w fun e w' => ∃ a3 n3 c3 ks, e = .returned (.agg (rdC n a3 n3 c3 none 0 0 rd wt fl).toArray) ∧ Rises ws ws.length ks ∧ IsAts w' (.slice a3 n3 c3) (crashL l ws ks (fun k => xs.getD k 0) ks.length) ∧ Below w.heap.size w w' := by
  obtain ⟨a2', c2', e2, hp⟩ := h.shape
  injection e2 with e2a e2b e2c
  subst e2a e2b e2c
  have HA := hide h
  have HFI := hide hF
  obtain ⟨fa, fc, hvf⟩ : ∃ a c, vf = .slice a xs.length c := by obtain ⟨_, a, c, hv, _⟩ := hF; exact ⟨a, c, hv⟩
  subst hvf
  have hfn : xs.length ≤ 9223372036854775807 := by obtain ⟨_, a, c, hv, h1, h2, _⟩ := hF; omega
  have HFC : Hid (∀ W k, Below w.heap.size w W → k < xs.length → ∃ b off, fa = some ⟨b, off, none⟩ ∧ W.cell? ⟨b, off + k, none⟩ = some (.int .i64 (xs.getD k 0))) := fun W k hW hk => by
    obtain ⟨_, a, c, hv, h1, h2, h3⟩ := hF.below hW
    injection hv with e1
    obtain ⟨b, off, ea, hc⟩ := h3 (by omega)
    exact ⟨b, off, e1.trans ea, hc k hk⟩
  have hfcap : xs.length ≤ fc ∧ fc ≤ 9223372036854775807 := by
    obtain ⟨_, a, c, hv, h1, h2, _⟩ := hF
    injection hv with e1 e2 e3
    subst e3
    exact ⟨h1, h2⟩
  have hlen : ws.length ≤ 549755813888 := by omega
  have HST := hide (fun j (hj : j < ws.length) q => ofN_step hj q)
  have HPE := hide (fun (j s : Nat) (q f : Int) (hj : j ≤ ws.length) hs hf he => pick_end (ws := ws) (j := j) (s := s) (q := q) (f := f) hj hs hf he)
  have HWR : Hid (∀ W, Below w.heap.size w W → Calls Try.prog 53 #[.agg #[.int .i64 n, .slice a1 n1 c1, .slice a2 ws.length c2, .int .i64 rd, .int .i64 wt, .int .i64 fl]] W fun e w' => ∃ v ks, e = .returned v ∧ OwnI w' W.heap.size v ks ∧ Rises ws ws.length ks ∧ Below W.heap.size W w') := fun W hW => written_calls (h.below hW) hlen
  generalize hm : ws.length = m at *
  have HM := hide hm
  clear hm
  have hZ0 : Arr ((w.alloc (.cells #[.int .i64 n, .slice a1 n1 c1, .slice a2 m c2, .int .i64 rd, .int .i64 wt, .int .i64 fl] 85)).alloc (.cells z36.toArray 85)) (w.heap.size + 1) 85 z36 := by
    have := Arr.new (w.alloc (.cells #[.int .i64 n, .slice a1 n1 c1, .slice a2 m c2, .int .i64 rd, .int .i64 wt, .int .i64 fl] 85)) z36 85
    rw [size_alloc] at this
    exact this
  have hX0 : Arr ((w.alloc (.cells #[.int .i64 n, .slice a1 n1 c1, .slice a2 m c2, .int .i64 rd, .int .i64 wt, .int .i64 fl] 85)).alloc (.cells z36.toArray 85)) w.heap.size 85 (rdC n a1 n1 c1 a2 m c2 rd wt fl) :=
    (Arr.new w (rdC n a1 n1 c1 a2 m c2 rd wt fl) 85).below ((Below.refl _ _).alloc (Nat.le_refl _) _)
  have hb0 : Below w.heap.size w ((w.alloc (.cells #[.int .i64 n, .slice a1 n1 c1, .slice a2 m c2, .int .i64 rd, .int .i64 wt, .int .i64 fl] 85)).alloc (.cells z36.toArray 85)) := ((Below.refl _ _).alloc (Nat.le_refl _) _).alloc (by simp) _
  have HA0 := hide (ha.below hb0)
  have HW0 := hide (unhide HWR _ hb0)
  have hund := Try.underlying85
  have hrg := hX0.range
  clear h ha hF HWR
  go_enter Try.func44, Try.ntmps44
  go_wp2_with (first
    | (refine wpList_load_mid rfl 85 (.tmp 2) rfl w.heap.size 0 rfl (rdC n a1 n1 c1 a2 m c2 rd wt fl) _ hrg hund rfl info36 ?_))
  refine (unhide HW0).mono ?_
  rintro e w1 ⟨v1, ks, rfl, hO1, hris, hb1⟩
  obtain ⟨ka, kc, rfl, hksh⟩ := hO1.shape
  have HC : Hid (Cr w w1 (w.heap.size + 2) 0 m n rd wt fl a2 c2 (.slice ka ks.length kc) ks l ws (fun k => xs.getD k 0)) := ⟨a1, n1, c1, HA0.out.below hb1, hX0.below hb1, hZ0.below hb1, hb0.trans (hb1.mono hb0.size), by simpa using hO1⟩
  have HRI := hide hris
  have HKL : Hid (∀ k, k ≤ ks.length → (crashL l ws ks (fun k => xs.getD k 0) k).length ≤ 549755813888) := fun k hk => by
    have h1 := crashL_len l ws ks (fun k => xs.getD k 0) k
    have h2 := hris.len
    omega
  have hkl : ks.length ≤ 549755813888 := by have := hris.len; omega
  clear hrg hX0 hZ0 hb0 HA0 HW0 hO1 hris hb1 hksh
  generalize hln : ks.length = ln at *
  have HLN := hide hln
  clear hln
  go_wp2
  go_loopw [6] (fun iv wr => ∃ k : Nat, k ≤ ln ∧ iv = .int .i64 (k : Int) ∧ Hid (Cr w wr (w.heap.size + 2) k m n rd wt fl a2 c2 (.slice ka ln kc) ks l ws (fun k => xs.getD k 0))) (fun iv _ => ln - (intOf iv).toNat)
  case atStart => exact ⟨0, by omega, rfl, HC⟩
  case round =>
    clear HC
    obtain ⟨k, hk, rfl, HC⟩ := hrel
    rename World => w1
    obtain ⟨a3, n3, c3, hI, hX, hZ, hnx, hO⟩ := HC.out
    have hsz := hnx.size
    have hx2 := hX.cell_of (j := 2) rfl
    have hx1 := hX.cell_of (j := 1) rfl
    have hxl := hX.lt
    by_cases hlt : k < ln
    · obtain ⟨ka', kc', hv', hksh⟩ := hO.shape
      rw [HLN.out] at hv' hksh
      injection hv' with e1 e2' e3
      subst e1 e3
      obtain ⟨gk, rfl, hbk, hgk, hlc, hkm, hkc⟩ := hksh (by omega)
      have hck := hkc k hlt
      have HSTEP : Hid (crashL l ws ks (fun k => xs.getD k 0) (k + 1) = if 1 ≤ min (xs.getD k 0) (ofN ws (ks.getD k 0)).length then putL (crashL l ws ks (fun k => xs.getD k 0) k) (ks.getD k 0) (pickW (ofN ws (ks.getD k 0)) (xs.getD k 0)) else crashL l ws ks (fun k => xs.getD k 0) k) := rfl
      have hcl := unhide HKL k hk
      have HI := hide hI
      have HX := hide hX
      have HZ := hide hZ
      have HNX := hide hnx
      have HO := hide hO
      have HSAME : Hid (crashL l ws ks (fun k => xs.getD k 0) (k + 1) = crashL l ws ks (fun k => xs.getD k 0) k → ∀ W, Below w1.heap.size w1 W → Cr w W (w.heap.size + 2) (k + 1) m n rd wt fl a2 c2 (.slice (some ⟨gk, 0, none⟩) ln kc) ks l ws (fun k => xs.getD k 0)) := fun e W hW =>
        ⟨a3, n3, c3, by rw [e]; exact HI.out.below hW, HX.out.below hW, HZ.out.below hW, HNX.out.trans (hW.mono hsz), HO.out.below hW⟩
      clear HC hkc hksh
      by_cases hfk : k < xs.length
      · obtain ⟨fb, fo, rfl, hcf⟩ := unhide HFC w1 k hnx hfk
        have hdk : decide ((k : Int) < (xs.length : Int)) = true := by simpa using hfk
        have HOF : Hid (∀ j, j < m → ∀ q, ofN (ws.take (j + 1)) q = if (ws.getD j dA).1 = q then ofN (ws.take j) q ++ [(ws.getD j dA).2] else ofN (ws.take j) q) := HST
        clear hI hX hZ hnx hO
        generalize hqq : ks.getD k 0 = qk at *
        generalize hff : xs.getD k 0 = fk at *
        have HQQ := hide hqq
        have HFF := hide hff
        clear hqq hff
        generalize xs.length = fn at *
        go_wp2
        go_loopw [8, 9, 10] (fun bv sv iv wr => ∃ (ba : Option Addr) (bn bc j s : Nat), j ≤ m ∧ bv = .slice ba bn bc ∧ sv = .int .i64 (s : Int) ∧ iv = .int .i64 (j : Int) ∧ Hid (s = (ofN (ws.take j) qk).length ∧ (s = 0 ∨ (s : Int) ≤ fk) ∧ (0 < s → Own8 wr 0 (.slice ba bn bc) ((ofN (ws.take j) qk).getD (s - 1) zsec))) ∧ s ≤ j ∧ Hid (Below w1.heap.size w1 wr)) (fun _ _ iv _ => m - (intOf iv).toNat)
        case atStart => exact ⟨none, 0, 0, 0, 0, by omega, rfl, rfl, rfl, ⟨by simp [ofN], Or.inl rfl, fun h => by omega⟩, by omega, Below.refl _ _⟩
        case round =>
          obtain ⟨ba, bn, bc, j, s, hj, rfl, rfl, rfl, HR, hsj, HN2⟩ := hrel
          have hsz2 := HN2.out.size
          have hx2' : wr.cell? ⟨w.heap.size, 2, none⟩ = some (.slice a2 m c2) := (HN2.out.cell (p := ⟨w.heap.size, 2, none⟩) hxl).trans hx2
          have hck' : wr.cell? ⟨gk, k, none⟩ = some (.int .i64 qk) := (HN2.out.cell (p := ⟨gk, k, none⟩) hgk).trans hck
          by_cases hjm : j < m
          · have hdj : decide ((j : Int) < (m : Int)) = true := by simpa using hjm
            by_cases hsf : (s : Int) < fk
            · have hds : decide ((s : Int) < fk) = true := by simpa using hsf
              obtain ⟨g, rfl, hle, hcm⟩ := hp (by omega)
              obtain ⟨z, hc1, hc2, hz⟩ := ((HA.out.below HNX.out).below HN2.out).elem (j := j) (by rw [HM.out]; exact hjm)
              obtain ⟨za, zn, zc, rfl⟩ := (Own8.isB hz).shape
              have hglt := World.block_lt_of_cell? wr _ hc1
              have HSS : Hid (∀ W, Below wr.heap.size wr W → W.cell? ⟨w.heap.size, 2, none⟩ = some (.slice (some ⟨g, 0, none⟩) m c2) ∧ W.cell? ⟨g, j * 2, none⟩ = some (.int .i64 (ws.getD j dA).1) ∧ W.cell? ⟨gk, k, none⟩ = some (.int .i64 qk)) := fun W hW =>
                ⟨(hW.cell (p := ⟨w.heap.size, 2, none⟩) (Nat.lt_of_lt_of_le hxl hsz2)).trans hx2', (hW.cell (p := ⟨g, j * 2, none⟩) hglt).trans hc1, (hW.cell (p := ⟨gk, k, none⟩) (Nat.lt_of_lt_of_le hgk hsz2)).trans hck'⟩
              have hof := unhide HOF j hjm qk
              have HZZ := hide hz
              clear hz
              generalize hyy : (ws.getD j dA).1 = yj at *
              generalize hys : (ws.getD j dA).2 = ys at *
              clear hyy hys
              by_cases hyq : yj = qk
              · rw [if_pos hyq] at hof
                have HR' : Hid (s + 1 = (ofN (ws.take (j + 1)) qk).length ∧ (s + 1 = 0 ∨ ((s + 1 : Nat) : Int) ≤ fk) ∧ (0 < s + 1 → Own8 wr.drew 0 (.slice za zn zc) ((ofN (ws.take (j + 1)) qk).getD (s + 1 - 1) zsec))) := by
                  rw [hof]
                  refine ⟨by rw [List.length_append, List.length_singleton, ← HR.out.1], Or.inr (by omega), fun _ => ?_⟩
                  have e : (ofN (ws.take j) qk ++ [ys]).getD (s + 1 - 1) zsec = ys := by
                    rw [List.getD_eq_getElem?_getD, Nat.add_sub_cancel, HR.out.1, List.getElem?_append_right (Nat.le_refl _), Nat.sub_self]; rfl
                  rw [e]
                  exact HZZ.out.below (Below.refl _ _).drew
                have HN3 : Hid (Below w1.heap.size w1 wr.drew) := HN2.out.drew
                have hx2d : wr.drew.cell? ⟨w.heap.size, 2, none⟩ = some (.slice (some ⟨g, 0, none⟩) m c2) := hx2'
                have hc2d : wr.drew.cell? ⟨g, j * 2 + 1, none⟩ = some (.slice za zn zc) := hc2
                clear hof HR HZZ hc1
                subst hyq
                go_wp2_with fail
                focus (go_region_held3 (fun W => W.cell? ⟨w.heap.size, 2, none⟩ = some (.slice (some ⟨g, 0, none⟩) m c2) ∧ W.cell? ⟨g, j * 2, none⟩ = some (.int .i64 yj) ∧ W.cell? ⟨gk, k, none⟩ = some (.int .i64 yj)) ((exact unhide HSS _ (Below.refl _ _).drew)) (fail))
                go_wp2
                exact ⟨⟨za, zn, zc, j + 1, s + 1, by omega, rfl, by go_num, by go_num, HR', by omega, HN3⟩, by simp [intOf]; omega⟩
              · rw [if_neg hyq] at hof
                have HR' : Hid (s = (ofN (ws.take (j + 1)) qk).length ∧ (s = 0 ∨ (s : Int) ≤ fk) ∧ (0 < s → Own8 wr.drew 0 (.slice ba bn bc) ((ofN (ws.take (j + 1)) qk).getD (s - 1) zsec))) := by
                  rw [hof]
                  exact ⟨HR.out.1, HR.out.2.1, fun h0 => (HR.out.2.2 h0).below (Below.refl _ _).drew⟩
                have HN3 : Hid (Below w1.heap.size w1 wr.drew) := HN2.out.drew
                clear hof HR HZZ hc1
                go_wp2_with fail
                focus (go_region_held3 (fun W => W.cell? ⟨w.heap.size, 2, none⟩ = some (.slice (some ⟨g, 0, none⟩) m c2) ∧ W.cell? ⟨g, j * 2, none⟩ = some (.int .i64 yj) ∧ W.cell? ⟨gk, k, none⟩ = some (.int .i64 qk)) ((exact unhide HSS _ (Below.refl _ _).drew)) (fail))
                go_wp2
                exact ⟨⟨ba, bn, bc, j + 1, s, by omega, rfl, rfl, by go_num, HR', by omega, HN3⟩, by simp [intOf]; omega⟩
            · have hds : decide ((s : Int) < fk) = false := by simpa using hsf
              have hpe := unhide HPE j s qk fk (by omega) HR.out.1 HR.out.2.1 (Or.inr (by omega))
              by_cases hs0 : 0 < s
              · have hds0 : decide (0 < (s : Int)) = true := by simp; omega
                have hob := HR.out.2.2 hs0
                rw [hpe.2 hs0] at hob
                have HST2 : Hid (crashL l ws ks (fun k => xs.getD k 0) (k + 1) = putL (crashL l ws ks (fun k => xs.getD k 0) k) qk (pickW (ofN ws qk) fk)) := by
                  have h9 := HSTEP.out
                  rw [if_pos (hpe.1.1 hs0)] at h9
                  exact h9
                have HPUT : Hid (∀ W, Below wr.heap.size wr W → Calls Try.prog 52 #[.slice a3 n3 c3, .int .i64 qk, .slice ba bn bc] W fun e w' => ∃ v, e = .returned v ∧ IsAts w' v (crashL l ws ks (fun k => xs.getD k 0) (k + 1)) ∧ Below wr.heap.size wr w') := fun W hW => by
                  rw [HST2.out]
                  exact (put_calls ((HI.out.below HN2.out).below hW) (hob.below hW) hcl).mono fun e w' ⟨v, h1, h2, h3⟩ => ⟨v, h1, h2, hW.trans (h3.mono hW.size)⟩
                have hx1' : wr.cell? ⟨w.heap.size, 1, none⟩ = some (.slice a3 n3 c3) := (HN2.out.cell (p := ⟨w.heap.size, 1, none⟩) hxl).trans hx1
                have HXW := hide (HX.out.below HN2.out)
                have HZW := hide (HZ.out.below HN2.out)
                have HOW := hide (HO.out.below HN2.out)
                have HNW : Hid (Below w.heap.size w wr) := HNX.out.trans (HN2.out.mono hsz)
                have hgX : gk ≠ w.heap.size := by omega
                have hgkw : gk < wr.heap.size := Nat.lt_of_lt_of_le hgk hsz2
                have HSS : Hid (∀ W : World, W.heap[gk]? = wr.heap[gk]? → W.cell? ⟨gk, k, none⟩ = some (.int .i64 qk)) := fun W hW => (World.cell?_of_block (a := ⟨gk, k, none⟩) hW).trans hck'
                clear hpe hob HR HST2 HSTEP HSAME
                go_wp2_with fail
                refine wp_region_held_drew (S := fun W => W.cell? ⟨gk, k, none⟩ = some (.int .i64 qk)) (by kernel_rfl) (unhide HSS _ rfl) (fun hHeld => ?_)
                refine wpAnyH_take (i := 0) (v := .pointer (some ⟨w.heap.size, 1, none⟩)) rfl (by kernel_rfl) (by kernel_rfl) (by kernel_rfl) (fun _ _ _ h => h) (Or.inl ⟨by rfl, fun w hSw => by go_simp⟩) (by assumption) ?_
                simp only [List.getElem_toArray, List.getElem_cons_zero, Act.put, List.setIfInBounds_toArray, List.set_cons_zero, List.set_cons_succ]
                refine wpAnyH_take (i := 2) (v := .slice (some ⟨gk, 0, none⟩) ln kc) rfl (by kernel_rfl) (by kernel_rfl) (by kernel_rfl) (fun _ _ _ h => h) (Or.inl ⟨by rfl, fun w hSw => by go_simp⟩) (by assumption) ?_
                simp only [List.getElem_toArray, List.getElem_cons_succ, List.getElem_cons_zero, Act.put, List.setIfInBounds_toArray, List.set_cons_zero, List.set_cons_succ]
                refine wpAnyH_take (i := 3) (v := .int .i64 (k : Int)) rfl (by kernel_rfl) (by kernel_rfl) (by kernel_rfl) (fun _ _ _ h => h) (Or.inl ⟨by rfl, fun w hSw => by go_simp⟩) (by assumption) ?_
                simp only [List.getElem_toArray, List.getElem_cons_succ, List.getElem_cons_zero, Act.put, List.setIfInBounds_toArray, List.set_cons_zero, List.set_cons_succ]
                refine wpAnyH_take (i := 4) (v := .pointer (some ⟨gk, k, none⟩)) rfl (by kernel_rfl) (by kernel_rfl) (by kernel_rfl) (fun _ _ _ h => h) (Or.inl ⟨by rfl, fun w hSw => by go_simp⟩) (by assumption) ?_
                simp only [List.getElem_toArray, List.getElem_cons_succ, List.getElem_cons_zero, Act.put, List.setIfInBounds_toArray, List.set_cons_zero, List.set_cons_succ]
                refine wpAnyH_take (i := 5) (v := .int .i64 qk) rfl (by kernel_rfl) (by kernel_rfl) (by kernel_rfl) (fun _ _ _ h => h) (Or.inl ⟨by rfl, fun w hSw => by go_simp⟩) (by assumption) ?_
                simp only [List.getElem_toArray, List.getElem_cons_succ, List.getElem_cons_zero, Act.put, List.setIfInBounds_toArray, List.set_cons_zero, List.set_cons_succ]
                refine wpAnyH_take (i := 6) (v := .slice ba bn bc) rfl (by kernel_rfl) (by kernel_rfl) (by kernel_rfl) (fun _ _ _ h => h) (Or.inl ⟨by rfl, fun w hSw => by go_simp⟩) (by assumption) ?_
                simp only [List.getElem_toArray, List.getElem_cons_succ, List.getElem_cons_zero, Act.put, List.setIfInBounds_toArray, List.set_cons_zero, List.set_cons_succ]
                refine wpAnyH_ready (rs := [1]) (by kernel_rfl) (by simp) (AllReadyH.cons rfl (fun K hK => ?_) AllReadyH.nil)
                refine step_load34 rfl (.tmp 60) rfl rfl hx1' ?_
                refine hK.out _ _ (hHeld) (fun hHeld1 => ?_)
                clear hK K
                simp only [List.getElem_toArray, List.getElem_cons_succ, List.getElem_cons_zero, Act.put, List.setIfInBounds_toArray, List.set_cons_zero, List.set_cons_succ]
                refine wpAnyH_ready (rs := [7]) (by kernel_rfl) (by simp) (AllReadyH.cons rfl (fun K hK => ?_) AllReadyH.nil)
                refine step_call3Gd (by rfl) 52 put_enter (.tmp 61) (.tmp 65) (.tmp 66) _ rfl rfl rfl rfl (unhide HPUT _ (Below.refl _ _).drew) ?_
                rintro e w6 ⟨v6, rfl, hI6, hb6⟩
                obtain ⟨ya, yn, yc, rfl⟩ : ∃ a n c, v6 = .slice a n c := by obtain ⟨a, c, h1, _⟩ := hI6.shape; exact ⟨_, _, _, h1⟩
                have hX6 := HXW.out.below hb6
                have hZ6 := HZW.out.below hb6
                have hO6 := HOW.out.below hb6
                refine ⟨_, rfl, ?_⟩
                refine hK.out _ _ (unhide HSS _ (hb6.block gk hgkw)) (fun hHeld2 => ?_)
                clear hK K
                simp only [List.getElem_toArray, List.getElem_cons_succ, List.getElem_cons_zero, Act.put, List.setIfInBounds_toArray, List.set_cons_zero, List.set_cons_succ]
                refine wpAnyH_take (i := 8) (v := .pointer (some ⟨w.heap.size, 1, none⟩)) rfl (by kernel_rfl) (by kernel_rfl) (by kernel_rfl) (fun _ _ _ h => h) (Or.inl ⟨by rfl, fun w hSw => by go_simp⟩) (by assumption) ?_
                simp only [List.getElem_toArray, List.getElem_cons_succ, List.getElem_cons_zero, Act.put, List.setIfInBounds_toArray, List.set_cons_zero, List.set_cons_succ]
                refine wpAnyH_ready (rs := [9]) (by kernel_rfl) (by simp) (AllReadyH.cons rfl (fun K hK => ?_) AllReadyH.nil)
                refine step_store34 (v := .slice ya yn yc) rfl (.tmp 68) (.tmp 67) rfl rfl rfl rfl (hX6.cell_of (j := 1) rfl) (hX6.frozen 1) ?_
                have hg7 := grown_cell w6 w.heap.size 1 (.slice ya yn yc)
                have hX7 := hX6.set 1 (.slice ya yn yc)
                have hI7 := hI6.other hg7 hX6 (by decide) (by decide)
                have hO7 := hO6.other hg7 hX6 (by decide)
                have hZ7 := hZ6.other ⟨w.heap.size, 1, none⟩ (.slice ya yn yc) (by simp)
                have hbb7 : Below w.heap.size w (w6.setCell ⟨w.heap.size, 1, none⟩ (.slice ya yn yc)) := (HNW.out.trans (hb6.mono HNW.out.size)).setCell (Nat.le_refl _) _
                refine hK.out _ _ (unhide HSS _ ((hg7.block gk (Nat.lt_of_lt_of_le hgkw hb6.size) (by simpa using hgX)).trans (hb6.block gk hgkw))) (fun hHeld3 => ?_)
                clear hK K
                simp only [List.getElem_toArray, List.getElem_cons_succ, List.getElem_cons_zero, Act.put]
                refine wpAnyH_done (by kernel_rfl) ?_ _
                have HC7 : Hid (Cr w (w6.setCell ⟨w.heap.size, 1, none⟩ (.slice ya yn yc)) (w.heap.size + 2) (k + 1) m n rd wt fl a2 c2 (.slice (some ⟨gk, 0, none⟩) ln kc) ks l ws (fun k => xs.getD k 0)) := ⟨ya, yn, yc, hI7, hX7, hZ7, hbb7, hO7⟩
                clear hI7 hX7 hZ7 hbb7 hO7 hI6 hX6 hZ6
                go_wp2
                go_roundw
                case rel => exact ⟨k + 1, by omega, by go_num, HC7⟩
                case measure => simp [intOf]; omega
              · have hds0 : decide (0 < (s : Int)) = false := by simp; omega
                have HC7 : Hid (Cr w wr (w.heap.size + 2) (k + 1) m n rd wt fl a2 c2 (.slice (some ⟨gk, 0, none⟩) ln kc) ks l ws (fun k => xs.getD k 0)) := unhide HSAME (by
                  have h9 := HSTEP.out
                  rw [if_neg (fun h => hs0 (hpe.1.2 h))] at h9
                  exact h9) wr HN2.out
                clear hpe HR HSTEP HSAME
                go_wp2
                go_roundw
                case rel => exact ⟨k + 1, by omega, by go_num, HC7⟩
                case measure => simp [intOf]; omega
          · have hdj : decide ((j : Int) < (m : Int)) = false := by simp; omega
            have hpe := unhide HPE j s qk fk (by omega) HR.out.1 HR.out.2.1 (Or.inl (by omega))
            by_cases hs0 : 0 < s
            · have hds0 : decide (0 < (s : Int)) = true := by simp; omega
              have hob := HR.out.2.2 hs0
              rw [hpe.2 hs0] at hob
              have HST2 : Hid (crashL l ws ks (fun k => xs.getD k 0) (k + 1) = putL (crashL l ws ks (fun k => xs.getD k 0) k) qk (pickW (ofN ws qk) fk)) := by
                have h9 := HSTEP.out
                rw [if_pos (hpe.1.1 hs0)] at h9
                exact h9
              have HPUT : Hid (∀ W, Below wr.heap.size wr W → Calls Try.prog 52 #[.slice a3 n3 c3, .int .i64 qk, .slice ba bn bc] W fun e w' => ∃ v, e = .returned v ∧ IsAts w' v (crashL l ws ks (fun k => xs.getD k 0) (k + 1)) ∧ Below wr.heap.size wr w') := fun W hW => by
                rw [HST2.out]
                exact (put_calls ((HI.out.below HN2.out).below hW) (hob.below hW) hcl).mono fun e w' ⟨v, h1, h2, h3⟩ => ⟨v, h1, h2, hW.trans (h3.mono hW.size)⟩
              have hx1' : wr.cell? ⟨w.heap.size, 1, none⟩ = some (.slice a3 n3 c3) := (HN2.out.cell (p := ⟨w.heap.size, 1, none⟩) hxl).trans hx1
              have HXW := hide (HX.out.below HN2.out)
              have HZW := hide (HZ.out.below HN2.out)
              have HOW := hide (HO.out.below HN2.out)
              have HNW : Hid (Below w.heap.size w wr) := HNX.out.trans (HN2.out.mono hsz)
              have hgX : gk ≠ w.heap.size := by omega
              have hgkw : gk < wr.heap.size := Nat.lt_of_lt_of_le hgk hsz2
              have HSS : Hid (∀ W : World, W.heap[gk]? = wr.heap[gk]? → W.cell? ⟨gk, k, none⟩ = some (.int .i64 qk)) := fun W hW => (World.cell?_of_block (a := ⟨gk, k, none⟩) hW).trans hck'
              clear hpe hob HR HST2 HSTEP HSAME
              go_wp2_with fail
              refine wp_region_held_drew (S := fun W => W.cell? ⟨gk, k, none⟩ = some (.int .i64 qk)) (by kernel_rfl) (unhide HSS _ rfl) (fun hHeld => ?_)
              refine wpAnyH_take (i := 0) (v := .pointer (some ⟨w.heap.size, 1, none⟩)) rfl (by kernel_rfl) (by kernel_rfl) (by kernel_rfl) (fun _ _ _ h => h) (Or.inl ⟨by rfl, fun w hSw => by go_simp⟩) (by assumption) ?_
              simp only [List.getElem_toArray, List.getElem_cons_zero, Act.put, List.setIfInBounds_toArray, List.set_cons_zero, List.set_cons_succ]
              refine wpAnyH_take (i := 2) (v := .slice (some ⟨gk, 0, none⟩) ln kc) rfl (by kernel_rfl) (by kernel_rfl) (by kernel_rfl) (fun _ _ _ h => h) (Or.inl ⟨by rfl, fun w hSw => by go_simp⟩) (by assumption) ?_
              simp only [List.getElem_toArray, List.getElem_cons_succ, List.getElem_cons_zero, Act.put, List.setIfInBounds_toArray, List.set_cons_zero, List.set_cons_succ]
              refine wpAnyH_take (i := 3) (v := .int .i64 (k : Int)) rfl (by kernel_rfl) (by kernel_rfl) (by kernel_rfl) (fun _ _ _ h => h) (Or.inl ⟨by rfl, fun w hSw => by go_simp⟩) (by assumption) ?_
              simp only [List.getElem_toArray, List.getElem_cons_succ, List.getElem_cons_zero, Act.put, List.setIfInBounds_toArray, List.set_cons_zero, List.set_cons_succ]
              refine wpAnyH_take (i := 4) (v := .pointer (some ⟨gk, k, none⟩)) rfl (by kernel_rfl) (by kernel_rfl) (by kernel_rfl) (fun _ _ _ h => h) (Or.inl ⟨by rfl, fun w hSw => by go_simp⟩) (by assumption) ?_
              simp only [List.getElem_toArray, List.getElem_cons_succ, List.getElem_cons_zero, Act.put, List.setIfInBounds_toArray, List.set_cons_zero, List.set_cons_succ]
              refine wpAnyH_take (i := 5) (v := .int .i64 qk) rfl (by kernel_rfl) (by kernel_rfl) (by kernel_rfl) (fun _ _ _ h => h) (Or.inl ⟨by rfl, fun w hSw => by go_simp⟩) (by assumption) ?_
              simp only [List.getElem_toArray, List.getElem_cons_succ, List.getElem_cons_zero, Act.put, List.setIfInBounds_toArray, List.set_cons_zero, List.set_cons_succ]
              refine wpAnyH_take (i := 6) (v := .slice ba bn bc) rfl (by kernel_rfl) (by kernel_rfl) (by kernel_rfl) (fun _ _ _ h => h) (Or.inl ⟨by rfl, fun w hSw => by go_simp⟩) (by assumption) ?_
              simp only [List.getElem_toArray, List.getElem_cons_succ, List.getElem_cons_zero, Act.put, List.setIfInBounds_toArray, List.set_cons_zero, List.set_cons_succ]
              refine wpAnyH_ready (rs := [1]) (by kernel_rfl) (by simp) (AllReadyH.cons rfl (fun K hK => ?_) AllReadyH.nil)
              refine step_load34 rfl (.tmp 60) rfl rfl hx1' ?_
              refine hK.out _ _ (hHeld) (fun hHeld1 => ?_)
              clear hK K
              simp only [List.getElem_toArray, List.getElem_cons_succ, List.getElem_cons_zero, Act.put, List.setIfInBounds_toArray, List.set_cons_zero, List.set_cons_succ]
              refine wpAnyH_ready (rs := [7]) (by kernel_rfl) (by simp) (AllReadyH.cons rfl (fun K hK => ?_) AllReadyH.nil)
              refine step_call3Gd (by rfl) 52 put_enter (.tmp 61) (.tmp 65) (.tmp 66) _ rfl rfl rfl rfl (unhide HPUT _ (Below.refl _ _).drew) ?_
              rintro e w6 ⟨v6, rfl, hI6, hb6⟩
              obtain ⟨ya, yn, yc, rfl⟩ : ∃ a n c, v6 = .slice a n c := by obtain ⟨a, c, h1, _⟩ := hI6.shape; exact ⟨_, _, _, h1⟩
              have hX6 := HXW.out.below hb6
              have hZ6 := HZW.out.below hb6
              have hO6 := HOW.out.below hb6
              refine ⟨_, rfl, ?_⟩
              refine hK.out _ _ (unhide HSS _ (hb6.block gk hgkw)) (fun hHeld2 => ?_)
              clear hK K
              simp only [List.getElem_toArray, List.getElem_cons_succ, List.getElem_cons_zero, Act.put, List.setIfInBounds_toArray, List.set_cons_zero, List.set_cons_succ]
              refine wpAnyH_take (i := 8) (v := .pointer (some ⟨w.heap.size, 1, none⟩)) rfl (by kernel_rfl) (by kernel_rfl) (by kernel_rfl) (fun _ _ _ h => h) (Or.inl ⟨by rfl, fun w hSw => by go_simp⟩) (by assumption) ?_
              simp only [List.getElem_toArray, List.getElem_cons_succ, List.getElem_cons_zero, Act.put, List.setIfInBounds_toArray, List.set_cons_zero, List.set_cons_succ]
              refine wpAnyH_ready (rs := [9]) (by kernel_rfl) (by simp) (AllReadyH.cons rfl (fun K hK => ?_) AllReadyH.nil)
              refine step_store34 (v := .slice ya yn yc) rfl (.tmp 68) (.tmp 67) rfl rfl rfl rfl (hX6.cell_of (j := 1) rfl) (hX6.frozen 1) ?_
              have hg7 := grown_cell w6 w.heap.size 1 (.slice ya yn yc)
              have hX7 := hX6.set 1 (.slice ya yn yc)
              have hI7 := hI6.other hg7 hX6 (by decide) (by decide)
              have hO7 := hO6.other hg7 hX6 (by decide)
              have hZ7 := hZ6.other ⟨w.heap.size, 1, none⟩ (.slice ya yn yc) (by simp)
              have hbb7 : Below w.heap.size w (w6.setCell ⟨w.heap.size, 1, none⟩ (.slice ya yn yc)) := (HNW.out.trans (hb6.mono HNW.out.size)).setCell (Nat.le_refl _) _
              refine hK.out _ _ (unhide HSS _ ((hg7.block gk (Nat.lt_of_lt_of_le hgkw hb6.size) (by simpa using hgX)).trans (hb6.block gk hgkw))) (fun hHeld3 => ?_)
              clear hK K
              simp only [List.getElem_toArray, List.getElem_cons_succ, List.getElem_cons_zero, Act.put]
              refine wpAnyH_done (by kernel_rfl) ?_ _
              have HC7 : Hid (Cr w (w6.setCell ⟨w.heap.size, 1, none⟩ (.slice ya yn yc)) (w.heap.size + 2) (k + 1) m n rd wt fl a2 c2 (.slice (some ⟨gk, 0, none⟩) ln kc) ks l ws (fun k => xs.getD k 0)) := ⟨ya, yn, yc, hI7, hX7, hZ7, hbb7, hO7⟩
              clear hI7 hX7 hZ7 hbb7 hO7 hI6 hX6 hZ6
              go_wp2
              go_roundw
              case rel => exact ⟨k + 1, by omega, by go_num, HC7⟩
              case measure => simp [intOf]; omega
            · have hds0 : decide (0 < (s : Int)) = false := by simp; omega
              have HC7 : Hid (Cr w wr (w.heap.size + 2) (k + 1) m n rd wt fl a2 c2 (.slice (some ⟨gk, 0, none⟩) ln kc) ks l ws (fun k => xs.getD k 0)) := unhide HSAME (by
                have h9 := HSTEP.out
                rw [if_neg (fun h => hs0 (hpe.1.2 h))] at h9
                exact h9) wr HN2.out
              clear hpe HR HSTEP HSAME
              go_wp2
              go_roundw
              case rel => exact ⟨k + 1, by omega, by go_num, HC7⟩
              case measure => simp [intOf]; omega
      · have hdk : decide ((k : Int) < (xs.length : Int)) = false := by simp; omega
        have hxk : xs.getD k 0 = 0 := by rw [List.getD_eq_getElem?_getD, List.getElem?_eq_none (by omega)]; rfl
        have HS0 : Hid (∀ W, Below w1.heap.size w1 W → Cr w W (w.heap.size + 2) (k + 1) m n rd wt fl a2 c2 (.slice (some ⟨gk, 0, none⟩) ln kc) ks l ws (fun k => xs.getD k 0)) := fun W hW => unhide HSAME (by rw [HSTEP.out, hxk, if_neg (by omega)]) W hW
        clear hxk HSAME HSTEP hI hX hZ hnx hO
        generalize xs.length = fn at *
        go_wp2
        go_loopw [8, 9, 10] (fun bv sv iv wr => bv = .slice none 0 0 ∧ sv = .int .i64 0 ∧ iv = .int .i64 0 ∧ Hid (Below w1.heap.size w1 wr)) (fun _ _ _ _ => 0)
        case atStart => exact ⟨rfl, rfl, rfl, Below.refl _ _⟩
        case round =>
          obtain ⟨rfl, rfl, rfl, HN2⟩ := hrel
          have hx2' : wr.cell? ⟨w.heap.size, 2, none⟩ = some (.slice a2 m c2) := (HN2.out.cell (p := ⟨w.heap.size, 2, none⟩) hxl).trans hx2
          have HC7 := hide (unhide HS0 wr HN2.out)
          clear HS0
          by_cases hm0 : 0 < m
          · have hdm : decide ((0 : Int) < (m : Int)) = true := by simpa using hm0
            go_wp2
            go_roundw
            case rel => exact ⟨k + 1, by omega, by go_num, HC7⟩
            case measure => simp [intOf]; omega
          · have hdm : decide ((0 : Int) < (m : Int)) = false := by simp; omega
            go_wp2
            go_roundw
            case rel => exact ⟨k + 1, by omega, by go_num, HC7⟩
            case measure => simp [intOf]; omega
    · have hkm : k = ln := by omega
      rw [hkm] at hI
      have hf2 := hX.frozen 2
      have hX7 : Arr (w1.setCell ⟨w.heap.size, 2, none⟩ (.slice none 0 0)) w.heap.size 85 (rdC n a3 n3 c3 none 0 0 rd wt fl) := hX.set 2 _
      have hZ7 : Arr (w1.setCell ⟨w.heap.size, 2, none⟩ (.slice none 0 0)) (w.heap.size + 1) 85 z36 := hZ.other ⟨w.heap.size, 2, none⟩ _ (by simp)
      have HI := hide hI
      have HX := hide hX
      have HNX := hide hnx
      clear HC hI hX hZ hnx hO hkm
      go_wp2_with (first
        | (refine wpList_load_mid rfl 85 (.tmp 2) rfl w.heap.size 0 rfl (rdC n a3 n3 c3 none 0 0 rd wt fl) _ hX7.range hund rfl info36 ?_)
        | (refine wpList_storeRow (cs := (rdC n a3 n3 c3 none 0 0 rd wt fl)) rfl (.tmp 4) (.tmp 70) 85 rfl rfl rfl hZ7.there info36 (rdC_one _ _ _ _ _ _ _ _ _ _) ?_))
      have hg8a := grown_cell w1 w.heap.size 2 (.slice none 0 0)
      have hg8c := grown_setCells (w1.setCell ⟨w.heap.size, 2, none⟩ (.slice none 0 0)) (w.heap.size + 1) 0 (rdC n a3 n3 c3 none 0 0 rd wt fl)
      have hI8 := (HI.out.other hg8a HX.out (by decide) (by decide)).other hg8c hZ7 (by decide) (by decide)
      have hZ8 := hZ7.setAll (ds := (rdC n a3 n3 c3 none 0 0 rd wt fl)) rfl
      have hB8 : Below w.heap.size w ((w1.setCell ⟨w.heap.size, 2, none⟩ (.slice none 0 0)).setCells (w.heap.size + 1) 0 (rdC n a3 n3 c3 none 0 0 rd wt fl)) := (HNX.out.setCell (Nat.le_refl _) _).grown hg8c (by have := HNX.out.size; simp; omega) (fun j hj => by injection hj with hj; omega)
      generalize (w1.setCell ⟨w.heap.size, 2, none⟩ (.slice none 0 0)).setCells (w.heap.size + 1) 0 (rdC n a3 n3 c3 none 0 0 rd wt fl) = w8 at *
      have hload : (loadVar 85 ⟨w.heap.size + 1, 0, none⟩).run Try.prog w8 = .ok (.agg (rdC n a3 n3 c3 none 0 0 rd wt fl).toArray) w8 := run_loadVar_mid _ _ 0 _ _ _ hZ8.range hund rfl info36
      refine bodyPost_ret (v := .agg (rdC n a3 n3 c3 none 0 0 rd wt fl).toArray) ?_ rfl ?_
      · exact results1 rfl rfl hload
      · exact ⟨a3, n3, c3, ks, rfl, HRI.out, by rw [HLN.out]; exact hI8, hB8⟩
end Go.Proofs.Ytfgjhlnaaopdeab
