/- What a directory's key hangs on. Nothing of a program. Clash; Same of any bytes. -/
import Derived.Test.YtpklbchbldipnaaDoorNB
import Derived.Test.YtpklbchbldipnaaDoorNAj
namespace Go.Proofs.YtpklbchbldipnaaDoor
open Go.RowKit

def kB (e : Ent) : List Int := headB e ++ (if e.dir then [] else uBytes e.ln)
theorem keyL_eqB (l : List Ent) : keyL l = 1 :: l.flatMap kB := rfl
/-- What the key hangs on. -/
def prj (e : Ent) : List Int × Bool × List Int × Int := (e.nm, e.dir, e.key, if e.dir then 0 else e.ln)
/-- An entry that stands in a directory. -/
structure EntIn (e : Ent) : Prop where
  ok : EntOk e
  nm : e.nm.length ≤ 64
  ln : 0 ≤ e.ln ∧ e.ln ≤ 1048576
theorem app_inj {a b s t : List Int} (hl : a.length = b.length) (h : a ++ s = b ++ t) : a = b ∧ s = t := List.append_inj h hl
theorem kB_prefix {a b : Ent} (ha : EntIn a) (hb : EntIn b) {s t : List Int} (h : kB a ++ s = kB b ++ t) : prj a = prj b ∧ s = t := by
  unfold kB headB at h
  simp only [List.append_assoc] at h
  have hn : a.nm = b.nm := bB_prefix (by have := ha.nm; omega) (by have := hb.nm; omega) h
  rw [hn] at h
  have h2 := List.append_cancel_left h
  simp only [List.cons_append, List.nil_append] at h2
  injection h2 with h3 h4
  have hd : a.dir = b.dir := by
    cases h5 : a.dir <;> cases h6 : b.dir <;> rw [h5, h6] at h3 <;> first | rfl | (exfalso; simp at h3)
  obtain ⟨hk, h5⟩ := app_inj (by rw [ha.ok.key.1, hb.ok.key.1]) h4
  rw [hd] at h5
  unfold prj
  rw [hn, hd, hk]
  cases hbd : b.dir with
  | true =>
    rw [hbd] at h5
    exact ⟨rfl, h5⟩
  | false =>
    rw [hbd] at h5
    simp only [Bool.false_eq_true, if_false] at h5 ⊢
    have hx : a.ln = b.ln := uBytes_prefix ha.ln.1 (top9 (by have := ha.ln.2; omega)) hb.ln.1 (top9 (by have := hb.ln.2; omega)) h5
    rw [hx] at h5 ⊢
    exact ⟨rfl, List.append_cancel_left h5⟩
theorem kB_pos (e : Ent) : kB e ≠ [] := by
  have h1 : 0 < (kB e).length := by
    unfold kB headB
    simp only [List.length_append, List.length_cons]
    omega
  intro h
  rw [h] at h1
  exact absurd h1 (by decide)
theorem kBs_inj (a : List Ent) : ∀ b : List Ent, (∀ e ∈ a, EntIn e) → (∀ e ∈ b, EntIn e) → a.flatMap kB = b.flatMap kB → a.map prj = b.map prj := by
  induction a with
  | nil =>
    intro b _ _ h
    cases b with
    | nil => exact rfl
    | cons e b =>
      rw [List.flatMap_nil, List.flatMap_cons] at h
      exact absurd (List.append_eq_nil_iff.1 h.symm).1 (kB_pos e)
  | cons e a ih =>
    intro b ha hb h
    cases b with
    | nil =>
      rw [List.flatMap_nil, List.flatMap_cons] at h
      exact absurd (List.append_eq_nil_iff.1 h).1 (kB_pos e)
    | cons f b =>
      rw [List.flatMap_cons, List.flatMap_cons] at h
      obtain ⟨h1, h2⟩ := kB_prefix (ha e (by simp)) (hb f (by simp)) h
      have h3 := ih b (fun x hx => ha x (List.mem_cons_of_mem _ hx)) (fun x hx => hb x (List.mem_cons_of_mem _ hx)) h2
      show prj e :: a.map prj = prj f :: b.map prj
      rw [h1, h3]
theorem kB_prj {a b : Ent} (h : prj a = prj b) : kB a = kB b := by
  unfold prj at h
  have h1 : a.nm = b.nm := congrArg (fun x => x.1) h
  have h2 : a.dir = b.dir := congrArg (fun x => x.2.1) h
  have h3 : a.key = b.key := congrArg (fun x => x.2.2.1) h
  have h4 : (if a.dir then 0 else a.ln) = (if b.dir then 0 else b.ln) := congrArg (fun x => x.2.2.2) h
  unfold kB headB
  rw [h1, h2, h3]
  rw [h2] at h4
  cases hd : b.dir with
  | true => rfl
  | false =>
    rw [hd] at h4
    simp only [Bool.false_eq_true, if_false] at h4 ⊢
    rw [h4]
/-- One content, one hashed text; and the other way round. -/
theorem key_iff {a b : List Ent} (ha : ∀ e ∈ a, EntIn e) (hb : ∀ e ∈ b, EntIn e) : keyL a = keyL b ↔ a.map prj = b.map prj := by
  rw [keyL_eqB, keyL_eqB]
  refine ⟨fun h => kBs_inj a b ha hb (by injection h), fun h => ?_⟩
  congr 1
  clear ha hb
  induction a generalizing b with
  | nil =>
    cases b with
    | nil => rfl
    | cons f b => simp at h
  | cons e a ih =>
    cases b with
    | nil => simp at h
    | cons f b =>
      have h1 : prj e = prj f := (List.cons.inj h).1
      have h2 : a.map prj = b.map prj := (List.cons.inj h).2
      rw [List.flatMap_cons, List.flatMap_cons, kB_prj h1, ih h2]
end Go.Proofs.YtpklbchbldipnaaDoor

namespace Go.Proofs.YtpklbchbldipnaaDoor
open Go.RowKit Go.Maps

theorem keyL_lt {l : List Ent} (h : ∀ e ∈ l, Fine e) (hl : l.length ≤ 1024) : (keyL l).length ≤ 200000 := by
  have := keys_lt h
  rw [keyL_eq, List.length_cons]
  omega
set_option maxRecDepth 100000 in
set_option maxHeartbeats 2000000 in
theorem clash_calls {va vb : Value} {la lb : List Ent} {w : World} (ha : IsEn w va la) (hb : IsEn w vb lb) (ca : chkL nbL la = 0) (cb : chkL nbL lb = 0) (hne : keyL la ≠ keyL lb) :
    Calls Tryd.prog 27 #[va, vb] w fun e w' => e = .returned (.bool (decide (shaOf (keyL la) = shaOf (keyL lb)))) ∧ Below w.heap.size w w' := by
  have hfa := fine_all ha.ok ca
  have hfb := fine_all hb.ok cb
  have hla := (chkL_le ca).1
  have hlb := (chkL_le cb).1
  have HHB : Hid (∀ W, Below w.heap.size w W → Calls Tryd.prog 40 #[vb] W fun e w' => ∃ u, e = .returned u ∧ Own8 w' W.heap.size u (keyL lb) ∧ Below W.heap.size W w') := fun W hW => hashed_calls (hb.below hW) hfb (by omega)
  have HHA := hide (hashed_calls ha hfa (by omega))
  have HKA := hide (keyL_lt hfa hla)
  have HKB := hide (keyL_lt hfb hlb)
  have hke := key_eql (shaOf (keyL la)) (shaOf (keyL lb)) (shaOf_len _) (shaOf_len _)
  have hkg := key_guard
  have HVA : Hid (keyV (keyL la) = .agg ((shaOf (keyL la)).map (Value.int .u8)).toArray) := rfl
  have HVB : Hid (keyV (keyL lb) = .agg ((shaOf (keyL lb)).map (Value.int .u8)).toArray) := rfl
  generalize shaOf (keyL la) = sa at *
  generalize shaOf (keyL lb) = sb at *
  generalize decide (sa = sb) = q at *
  generalize keyL la = ka at *
  generalize keyL lb = kb at *
  have HNE := hide hne
  obtain ⟨aa, cca, rfl⟩ := ha.shape
  obtain ⟨ab, ccb, rfl⟩ := hb.shape
  generalize la.length = na at *
  generalize lb.length = nb at *
  clear ha hb ca cb hfa hfb hla hlb hne
  go_enter Tryd.func27, Tryd.ntmps27
  go_wp2_with fail
  refine (unhide HHA).mono ?_
  rintro e w1 ⟨u1, rfl, ho1, hb1⟩
  go_wp2_with fail
  refine (unhide HHB w1 hb1).mono ?_
  rintro e w2 ⟨u2, rfl, ho2, hb2⟩
  obtain ⟨a1, n1, c1, hu1⟩ := ho1.shape
  subst hu1
  obtain ⟨a2, n2, c2, hu2⟩ := ho2.shape
  subst hu2
  have hi1 := (ho1.below hb2).isB
  have hi2 := ho2.isB
  have cv1 := conv_isB hi1
  have cv2 := conv_isB hi2
  have hse : ((mkS ka).toList == (mkS kb).toList) = false := by
    rw [Bool.eq_false_iff]
    intro h
    rw [beq_iff_eq, ByteArray.toList_eq, ByteArray.toList_eq] at h
    exact HNE.out (mkS_inj hi1.mem hi2.mem (congrArg ByteArray.mk (Array.toList_inj.1 h)))
  have HS1 : Hid (∀ W, Below w2.heap.size w2 W → IsB W (.slice a1 n1 c1) ka) := fun W hW => hi1.below hW
  have HS2 : Hid (∀ W, Below w2.heap.size w2 W → IsB W (.slice a2 n2 c2) kb) := fun W hW => hi2.below hW
  have HB2 := hide (hb1.trans (hb2.mono hb1.size))
  clear HHA HHB ho1 ho2 hb1 hb2 hi1 hi2
  generalize mkS ka = ska at *
  generalize mkS kb = skb at *
  have HC1 := hide (rsum_calls (unhide HS1 w2 (Below.refl _ _)) (by have := HKA.out; omega))
  rw [HVA.out] at HC1
  go_wp2_with (first
    | (go_at_call 39; with_reducible refine (unhide HC1).mono ?_; rintro e w3 ⟨rfl, hb3⟩; have hc2 := rsum_calls (unhide HS2 w3 hb3) (by have := HKB.out; omega); rw [HVB.out] at hc2; have HC2 := hide hc2; clear hc2)
    | (go_at_call 39; with_reducible refine (unhide HC2).mono ?_; rintro e w4 ⟨rfl, hb4⟩))
  go_ret
  have hb34 := hb3.trans (hb4.mono hb3.size)
  exact ⟨rfl, HB2.out.trans (hb34.mono HB2.out.size)⟩
theorem all_eq {xs ys : List Int} (hl : xs.length = ys.length) (h : ∀ j, j < xs.length → xs.getD j 0 = ys.getD j 0) : xs = ys := by
  refine List.ext_getElem hl fun j h1 h2 => ?_
  have := h j h1
  rw [List.getD_eq_getElem?_getD, List.getD_eq_getElem?_getD, List.getElem?_eq_getElem h1, List.getElem?_eq_getElem h2] at this
  exact this
set_option maxRecDepth 100000 in
set_option maxHeartbeats 2000000 in
theorem bsame_calls {w : World} {va vb : Value} {xs ys : List Int} (ha : IsB w va xs) (hb : IsB w vb ys) :
    Calls Tryd.prog 17 #[va, vb] w fun e w' => e = .returned (.bool (decide (xs = ys))) ∧ Below w.heap.size w w' := by
  by_cases hxy : xs = ys
  · subst hxy
    rw [decide_eq_true rfl]
    exact (same_calls ha hb).mono fun e w' ⟨h1, h2⟩ => ⟨h1, below_same h2⟩
  · rw [decide_eq_false hxy]
    have HXY := hide hxy
    obtain ⟨_, aa, ca, rfl, hla, hma, _, hca⟩ := ha
    obtain ⟨_, ab, cb, rfl, hlb, hmb, _, hcb⟩ := hb
    obtain ⟨n, hn⟩ : ∃ n, n = xs.length := ⟨_, rfl⟩
    obtain ⟨m, hm⟩ : ∃ m, m = ys.length := ⟨_, rfl⟩
    rw [← hn] at hca hla ⊢
    rw [← hm] at hcb hlb ⊢
    by_cases hnm : n = m
    · subst hnm
      have h0 : 0 < n := by
        rcases Nat.eq_zero_or_pos n with h0 | h0
        · exact absurd ((List.eq_nil_of_length_eq_zero (by omega)).trans (List.eq_nil_of_length_eq_zero (by omega)).symm) hxy
        · exact h0
      obtain ⟨ga, oa, rfl, hcella⟩ := hca h0
      obtain ⟨gb, ob, rfl, hcellb⟩ := hcb h0
      have HA := hide hcella
      have HB := hide hcellb
      have HN := hide hn
      have HM := hide hm
      clear hca hcb hcella hcellb hn hm h0 hxy
      go_enter Tryd.func17, Tryd.ntmps17
      go_wp2
      go_loopw [5] (fun i wr => ∃ k m : Nat, k ≤ n ∧ i = .int .i64 (k : Int) ∧ wr = w.drewN m ∧ Hid (∀ j, j < k → xs.getD j 0 = ys.getD j 0)) (fun i _ => n - (intOf i).toNat)
      case atStart => exact ⟨0, 0, by omega, rfl, rfl, fun j hj => absurd hj (by omega)⟩
      case round =>
        obtain ⟨k, m, hk, rfl, rfl, HJ⟩ := hrel
        by_cases hlt : k < n
        · have h1 := unhide HA k hlt
          have h2 := unhide HB k hlt
          have hkI : (k : Int) < (n : Int) := by omega
          have hk0 : (0 : Int) ≤ (k : Int) := by omega
          obtain ⟨p, hp⟩ : ∃ p, xs.getD k 0 = p := ⟨_, rfl⟩
          obtain ⟨q, hq⟩ : ∃ q, ys.getD k 0 = q := ⟨_, rfl⟩
          rw [hp] at h1
          rw [hq] at h2
          by_cases hpq : p = q
          · subst hpq
            have HJ2 : Hid (∀ j, j < k + 1 → xs.getD j 0 = ys.getD j 0) := fun j hj => by
              by_cases e : j = k
              · subst e; rw [hp, hq]
              · exact unhide HJ j (by omega)
            clear hp hq
            go_wp2
            go_quiet (fail)
            go_wp2
            go_roundw
            case rel => exact ⟨k + 1, _, by omega, by go_num, rfl, HJ2⟩
            case measure => simp [intOf]; omega
          · have hpb : (p == q) = false := by simpa using hpq
            clear hp hq
            go_wp2
            go_quiet (fail)
            go_wp2
            go_ret
            exact ⟨rfl, (below_same ⟨m, rfl⟩).trans ((below_same ⟨_, rfl⟩).mono (Nat.le_refl _))⟩
        · exact absurd (all_eq (HN.out.symm.trans HM.out) (fun j hj => unhide HJ j (by have := HN.out; omega))) HXY.out
    · have hnmi : ¬ (n : Int) = (m : Int) := by omega
      clear hca hcb hn hm hxy
      go_enter Tryd.func17, Tryd.ntmps17
      go_wp2
      go_ret
      exact ⟨rfl, Below.refl _ _⟩
end Go.Proofs.YtpklbchbldipnaaDoor
