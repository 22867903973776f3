/- chain: the document's sector. chain: the piece of a sector; whether bytes are a piece's sector. Parts of a slice of bytes, wherever it lies: what the expression yields, as one equation. -/
import Derived.Test.YtlofoklfggmbiaaDoorQF
import Derived.Test.YtlofoklfggmbiaaDoorQG
import Derived.Test.YtlofoklfggmbiaaDoorQC
namespace Go.Proofs.YtlofoklfggmbiaaDoor
open Go.RowKit Go.Maps

def lenOf : Value → Nat
 | .slice _ n _ => n
 | _ => 0
theorem below_own8 {B : Nat} {w w0 w' : World} {v : Value} {xs : List Int} (h : Below B w0 w) (ho : Own8 w B v xs) (hg : w.grownBy w' v.ownBlock) (hB : B ≤ w.heap.size) : Below B w0 w' := h.grown hg hB (fun k hk => (World.ownsRow.lt ho.1 k hk).1)
theorem refSectors_calls (n : Int) (w : World) : Calls Tryd.prog 69 #[.int .i64 n] w fun e w' => e = .returned (.int .i64 (secN n)) ∧ w' = w := by
 by_cases h1 : n < 0
 · rw [show secN n = 0 by unfold secN; rw [if_pos h1]]
   go_enter Tryd.func69, Tryd.ntmps69
   go_wp2
   go_ret
   exact ⟨rfl, rfl⟩
 · by_cases h2 : 1048576 < n
   · have h3 : decide (n < 0) = false := by simpa using h1
     rw [show secN n = 0 by unfold secN; rw [if_neg h1, if_pos h2]]
     go_enter Tryd.func69, Tryd.ntmps69
     go_wp2
     go_ret
     exact ⟨rfl, rfl⟩
   · have h3 : decide (n < 0) = false := by simpa using h1
     have h4 : decide (1048576 < n) = false := by simpa using h2
     by_cases h5 : n = 0
     · subst h5
       rw [show secN 0 = 1 by decide]
       go_enter Tryd.func69, Tryd.ntmps69
       go_wp2
       go_ret
       exact ⟨rfl, rfl⟩
     · have e1 : IntKind.i64.wrap (n + 480) = n + 480 := IntWalk.i64_in _ (by omega)
       have e2 : IntKind.i64.wrap (n + 480 - 1) = n + 479 := by rw [show n + 480 - 1 = n + 479 by omega]; exact IntWalk.i64_in _ (by omega)
       rw [show secN n = (n + 479) / 480 by unfold secN; rw [if_neg h1, if_neg h2]; omega]
       go_enter Tryd.func69, Tryd.ntmps69
       go_wp2
       go_ret
       exact ⟨rfl, rfl⟩
theorem refNumber_calls {w : World} {V : Int} {n : Nat} (h0 : 0 ≤ V) (h1 : 1 ≤ n) (h8 : n ≤ 8) (hz : V / 2 ^ (8 * n) = 0) (hV : V ≤ 9223372036854775807) :
 Calls Tryd.prog 92 #[.int .i64 V, .int .i64 (n : Int)] w fun e w' => ∃ v, e = .returned v ∧ Own8 w' w.heap.size v (fB V n) ∧ Below w.heap.size w w' := by
 have HX := hide (refFixed_in V n w h0 (by omega) h1 h8)
 have hw : IntKind.u64.wrap V = V := by rw [IntKind.wrap_u64]; omega
 have HZ := hide hz
 clear hz
 go_enter Tryd.func92, Tryd.ntmps92
 go_wp2_with fail
 refine (unhide HX).mono ?_
 rintro e w1 ⟨hor, hb⟩
 obtain ⟨v, rfl, hr⟩ : ∃ v, e = .returned (.tuple #[v, .int .i64 0]) ∧ w1.ownsRow w.heap.size 5 1 v n ((fB V n).map (Value.int .u8)) := by
  rcases hor with ⟨h, _⟩ | ⟨_, v, h, h2⟩
  · rw [HZ.out] at h; cases h
  · exact ⟨v, h, h2⟩
 have HR := hide hr
 have HB := hide hb
 clear HX hor hr hb HZ
 go_wp2
 go_ret
 exact ⟨v, rfl, ⟨by rw [fB_len]; exact HR.out, fun x hx => fB_bytes V n x hx⟩, HB.out⟩
theorem refSumB_calls {w : World} {v : Value} {xs : List Int} (h : IsB w v xs) :
 Calls Tryd.prog 93 #[v] w fun e w' => e = .returned (.int .u32 (sumOf [xs])) ∧ Below w.heap.size w w' := by
 obtain ⟨a, n, c, rfl⟩ := h.shape
 have HS := hide (refSum_calls (isBB_one h))
 have HB := hide ((Below.refl w.heap.size w).alloc (Nat.le_refl _) (.cells #[.slice a n c] 26))
 generalize sumOf [xs] = sm at *
 clear h
 go_enter Tryd.func93, Tryd.ntmps93
 go_wp2_with fail
 refine (unhide HS).mono ?_
 rintro e w1 ⟨rfl, hw1⟩
 obtain rfl := hw1.symm
 clear HS
 go_wp2
 go_ret
 exact ⟨rfl, HB.out⟩
set_option maxRecDepth 100000 in
set_option maxHeartbeats 4000000 in
theorem refSector_calls {w : World} {pa : Option Addr} {pn pc : Nat} {ps hs : List Int} {place next : Int} (hp : IsB w (.slice pa pn pc) ps) (hpl : ps.length ≤ 480) (hh : hs.length = 32) (hhb : ∀ x ∈ hs, 0 ≤ x ∧ x ≤ 255) (hn0 : 0 ≤ next) (hn1 : next < 4294967296) (hp0 : 0 ≤ place) (hp1 : place < 4294967296) :
 Calls Tryd.prog 72 #[.agg (hs.map (Value.int .u8)).toArray, .int .i64 place, .int .i64 next, .slice pa pn pc] w fun e w' => ∃ v, e = .returned v ∧ Own8 w' w.heap.size v (secL hs place next ps) ∧ Below w.heap.size w w' := by
 have hpn : pn = ps.length := hp.lenEq
 subst hpn
 have hb0 := (Below.refl w.heap.size w).alloc (Nat.le_refl _) (.cells (hs.map (Value.int .u8)).toArray 32)
 have hA0 := Arr.new w (hs.map (Value.int .u8)) 32
 have n0 : next / 2 ^ (8 * 4) = 0 := Int.ediv_eq_zero_of_lt hn0 (by omega)
 have n1 : ((ps.length : Nat) : Int) / 2 ^ (8 * 2) = 0 := Int.ediv_eq_zero_of_lt (by omega) (by omega)
 have n2 : place / 2 ^ (8 * 4) = 0 := Int.ediv_eq_zero_of_lt hp0 (by omega)
 have HP := hide hp
 have HHB := hide hhb
 have HN0 := hide (refNumber_calls (w := w.alloc (.cells (hs.map (Value.int .u8)).toArray 32)) (n := 4) hn0 (by decide) (by decide) n0 (by omega))
 have HN1 : Hid (∀ W, Calls Tryd.prog 92 #[.int .i64 ((ps.length : Nat) : Int), .int .i64 2] W fun e w' => ∃ v, e = .returned v ∧ Own8 w' W.heap.size v (fB (ps.length : Int) 2) ∧ Below W.heap.size W w') := hide (fun W => refNumber_calls (n := 2) (by omega) (by decide) (by decide) n1 (by omega))
 have HN2 : Hid (∀ W, Calls Tryd.prog 92 #[.int .i64 place, .int .i64 4] W fun e w' => ∃ v, e = .returned v ∧ Own8 w' W.heap.size v (fB place 4) ∧ Below W.heap.size W w') := hide (fun W => refNumber_calls (n := 4) hp0 (by decide) (by decide) n2 (by omega))
 have e1 : (w.alloc (.cells (hs.map (Value.int .u8)).toArray 32)).heap.size = w.heap.size + 1 := by simp
 have HA0 := hide hA0
 have HB0 := hide hb0
 have HE1 := hide e1
 clear hp hA0 hb0 hhb e1
 go_enter Tryd.func72, Tryd.ntmps72
 go_wp2_with fail
 refine (unhide HN0).mono ?_
 rintro e w1 ⟨v1, rfl, ho1, hb1⟩
 rw [HE1.out] at ho1 hb1
 have HK : Hid (∀ W, Below (w.heap.size + 1) w1 W → IsB W (.slice (some ⟨w.heap.size, 0, none⟩) 8 32) (hs.take 8)) := hide (fun W hW => by
  have h1 : Arr w1 w.heap.size 32 (hs.map (Value.int .u8)) := HA0.out.keep (hb1.block _ (by omega))
  exact isB_pre (h1.keep (hW.block _ (by omega))) HHB.out (by rw [hh]; decide) (by decide) (by decide))
 have hbw1 : Below w.heap.size w w1 := HB0.out.trans (hb1.mono (by omega))
 have HPP : Hid (∀ W, Below (w.heap.size + 1) w1 W → IsB W (.slice pa ps.length pc) ps) := hide (fun W hW => HP.out.below (hbw1.trans (hW.mono (by omega))))
 have HBW := hide hbw1
 have hs1 : w.heap.size + 1 ≤ w1.heap.size := by have := hb1.size; rw [HE1.out] at this; exact this
 obtain ⟨B, hB⟩ : ∃ B, B = w.heap.size + 1 := ⟨_, rfl⟩
 rw [← hB] at ho1 HK HPP hs1
 have HBE := hide hB
 obtain ⟨a1, m1, c1, rfl⟩ := ho1.shape
 have HO1 := hide ho1
 clear HN0 ho1 hb1 HA0 HB0 HP hbw1 hB
 go_wp2_with fail
 refine (unhide HN1 w1).mono ?_
 rintro e w2 ⟨v2, rfl, ho2, hb2⟩
 have ho1b := HO1.out.below hb2
 have hbb2 : Below B w1 w2 := hb2.mono hs1
 have hs2 : B ≤ w2.heap.size := Nat.le_trans hs1 hb2.size
 have hi2 := ho2.isB
 obtain ⟨a2, m2, c2, rfl⟩ := ho2.shape
 clear HN1 HO1 ho2 hb2
 have hlen1 : (fB next 4).length + (fB (ps.length : Int) 2).length ≤ 140737488355328 := by rw [fB_len, fB_len]; decide
 have HO1B := hide ho1b
 have HI2 := hide hi2
 have HBB2 := hide hbb2
 clear ho1b hi2 hbb2
 have HZ : Hid (∀ (W W2 : World) (v : Value) (xs : List Int), Own8 W B v xs → B ≤ W.heap.size → Below B w1 W → Below W.heap.size W W2 → Own8 W2 B v xs ∧ B ≤ W2.heap.size ∧ Below B w1 W2) := hide (fun W W2 v xs h1 h2 h3 h4 => ⟨h1.below h4, Nat.le_trans h2 h4.size, h3.trans (h4.mono h2)⟩)
 have HY : Hid (∀ (W W2 : World) (v : Value) (xs : List Int), Own8 W B v xs → B ≤ W.heap.size → Below B w1 W → W.grownBy W2 v.ownBlock → B ≤ W2.heap.size ∧ Below B w1 W2) := hide (fun W W2 v xs h1 h2 h3 h4 => ⟨Nat.le_trans h2 h4.size, below_own8 h3 h1 h4 h2⟩)
 go_wp2_with (first
  | (at_builtin; refine wpList_appB rfl (.tmp 12) (.tmp 15) rfl rfl HO1B.out rfl HI2.out hlen1 hs2 ?_; intro v3 w3 ho3 hg3
     obtain ⟨hs3, hbb3⟩ := unhide HY _ _ _ _ HO1B.out hs2 HBB2.out hg3
     obtain ⟨a3, m3, c3, rfl⟩ := ho3.shape
     have hbz := (Below.refl w3.heap.size w3).alloc (Nat.le_refl _) (.cells #[.int .u8 0, .int .u8 0] 5)
     obtain ⟨ho4, hs4, hbb4⟩ := unhide HZ _ _ _ _ ho3 hs3 hbb3 hbz
     have hi4 := isB_lit w3 [0, 0] (by decide) (by decide)
     have HO4 := hide ho4; have HI4 := hide hi4; have HBB4 := hide hbb4
     clear ho3 hg3 hbb3 hbz ho4 hi4 hbb4)
  | (at_builtin; refine wpList_appB rfl (.tmp 17) (.tmp 18) rfl rfl HO4.out rfl HI4.out (by simp [fB_len]) hs4 ?_; intro v5 w5 ho5 hg5
     obtain ⟨hs5, hbb5⟩ := unhide HY _ _ _ _ HO4.out hs4 HBB4.out hg5
     obtain ⟨a5, m5, c5, rfl⟩ := ho5.shape
     have HO5 := hide ho5; have HBB5 := hide hbb5
     clear ho5 hg5 hbb5 HO4 HI4 HBB4))
 refine (unhide HN2 w5).mono ?_
 rintro e w6 ⟨v6, rfl, ho6, hb6⟩
 obtain ⟨ho5b, hs6, hbb6⟩ := unhide HZ _ _ _ _ HO5.out hs5 HBB5.out hb6
 have hi6 := ho6.isB
 obtain ⟨a6, m6, c6, rfl⟩ := ho6.shape
 have HO5B : Hid (Own8 w6 B (.slice a5 m5 c5) (hd8 next ps.length)) := hide ho5b
 have HI6 := hide hi6
 have HBB6 := hide hbb6
 have hl6 : (hd8 next ps.length).length + (fB place 4).length ≤ 140737488355328 := by simp [hd8, fB_len]
 have hl7 : (hd12 place next ps.length).length + (hs.take 8).length ≤ 140737488355328 := by simp [hd12, hd8, fB_len]; omega
 have HLA : Hid ((hd12 place next ps.length ++ hs.take 8).length = 20) := hide (by simp [hd12, hd8, fB_len, hh])
 clear HN2 ho6 hb6 ho5b hi6 hbb6 HO5 HBB5 hlen1
 go_wp2_with (first
  | (at_builtin; refine wpList_appB rfl (.tmp 20) (.tmp 22) rfl rfl HO5B.out rfl HI6.out hl6 hs6 ?_; intro v7 w7 ho7 hg7
     obtain ⟨hs7, hbb7⟩ := unhide HY _ _ _ _ HO5B.out hs6 HBB6.out hg7
     obtain ⟨a7, m7, c7, rfl⟩ := ho7.shape
     have HI7 := hide (unhide HK w7 hbb7)
     have HO7 : Hid (Own8 w7 B (.slice a7 m7 c7) (hd12 place next ps.length)) := hide ho7
     have HBB7 := hide hbb7
     clear ho7 hg7 hbb7)
  | (at_builtin; refine wpList_appB rfl (.tmp 24) (.tmp 25) rfl rfl HO7.out rfl HI7.out hl7 hs7 ?_; intro v8 w8 ho8 hg8
     obtain ⟨hs8, hbb8⟩ := unhide HY _ _ _ _ HO7.out hs7 HBB7.out hg8
     obtain ⟨a8, m8, c8, rfl⟩ := ho8.shape
     have hm8 := ho8.isB.lenEq
     rw [HLA.out] at hm8
     subst hm8
     have HT : Hid (Own8 w8 B (.slice a8 20 c8) (hd12 place next ps.length ++ hs.take 8 ++ List.replicate (20 - 20) 0) ∧ B ≤ w8.heap.size ∧ Below B w1 w8) := hide ⟨(by rw [Nat.sub_self, List.replicate_zero, List.append_nil]; exact ho8), hs8, hbb8⟩
     clear ho8 hg8 hs8 hbb8 HO7 HI7 HBB7))
 clear HO5B HI6 HBB6 HO1B HI2 HBB2 HK hl6 hl7 hs2 hs3 hs4 hs5 hs6 hs7
 generalize hAA : hd12 place next ps.length ++ hs.take 8 = AA at HLA HT
 have HAA := hide hAA
 clear hAA
 go_loopw [9] (fun bv W => ∃ (n : Nat) (a : Option Addr) (c : Nat), 20 ≤ n ∧ n ≤ 28 ∧ bv = .slice a n c ∧ Hid (Own8 W B bv (AA ++ List.replicate (n - 20) 0) ∧ B ≤ W.heap.size ∧ Below B w1 W)) (fun bv _ => 28 - lenOf bv)
 case atStart => exact ⟨20, _, _, by omega, by omega, rfl, HT⟩
 case round =>
  clear HT
  obtain ⟨n, na, nc, hn2, hn3, rfl, HT⟩ := hrel
  by_cases hn8 : n < 28
  · have hnI : (n : Int) < 28 := by omega
    obtain ⟨ho, hsz, hbb⟩ := HT.out
    have hbz := (Below.refl wr.heap.size wr).alloc (Nat.le_refl _) (.cells #[.int .u8 0] 5)
    obtain ⟨ho4, hs4, hbb4⟩ := unhide HZ _ _ _ _ ho hsz hbb hbz
    have HO4 := hide ho4
    have HI4 := hide (isB_lit wr [0] (by decide) (by decide))
    have HBB4 := hide hbb4
    have hl4 : (AA ++ List.replicate (n - 20) 0).length + [0].length ≤ 140737488355328 := by rw [List.length_append, HLA.out, List.length_replicate]; simp; omega
    clear ho hsz hbb hbz ho4 hbb4 HT
    go_wp2_with (first
     | (at_builtin; refine wpList_appB rfl (.tmp 30) (.tmp 31) rfl rfl HO4.out rfl HI4.out hl4 hs4 ?_; intro v5 w5 ho5 hg5
        obtain ⟨hs5, hbb5⟩ := unhide HY _ _ _ _ HO4.out hs4 HBB4.out hg5
        obtain ⟨a5, m5, c5, rfl⟩ := ho5.shape
        rw [List.append_assoc, ← List.replicate_succ', show n - 20 + 1 = n + 1 - 20 by omega] at ho5
        have hm5 := ho5.isB.lenEq
        rw [List.length_append, HLA.out, List.length_replicate, show 20 + (n + 1 - 20) = n + 1 by omega] at hm5
        subst hm5
        have HT5 := hide (And.intro ho5 (And.intro hs5 hbb5))
        clear ho5 hg5 hs5 hbb5 HO4 HI4 HBB4 hl4))
    go_roundw
    case rel => exact ⟨n + 1, _, _, by omega, by omega, rfl, HT5⟩
    case measure => simp [lenOf]; omega
  · have hnI : ¬ (n : Int) < 28 := by omega
    have HN8 : Hid (n = 28) := hide (by omega)
    obtain ⟨ho, hsz, hbb⟩ := HT.out
    have HO : Hid (Own8 wr B (.slice na n nc) (hd28 hs place next ps.length)) := hide (by rw [HN8.out, ← HAA.out] at ho; rw [HN8.out]; exact ho)
    have HI := hide (unhide HPP wr hbb)
    have HBB := hide hbb
    have hl8 : (hd28 hs place next ps.length).length + ps.length ≤ 140737488355328 := by rw [hd28_len hh]; omega
    have HL9 : Hid ((hd28 hs place next ps.length ++ ps).length = 28 + ps.length) := hide (by rw [List.length_append, hd28_len hh])
    clear ho hbb HT
    go_wp2_with (first
     | (at_builtin; refine wpList_appB rfl (.tmp 33) (.tmp 34) rfl rfl HO.out rfl HI.out hl8 hsz ?_; intro v9 w9 ho9 hg9
        obtain ⟨hs9, hbb9⟩ := unhide HY _ _ _ _ HO.out hsz HBB.out hg9
        obtain ⟨a9, m9, c9, rfl⟩ := ho9.shape
        have hm9 := ho9.isB.lenEq
        rw [HL9.out] at hm9
        have HT : Hid (Own8 w9 B (.slice a9 m9 c9) (hd28 hs place next ps.length ++ ps ++ List.replicate (m9 - (28 + ps.length)) 0) ∧ B ≤ w9.heap.size ∧ Below B w1 w9) := hide ⟨(by rw [hm9, Nat.sub_self, List.replicate_zero, List.append_nil]; rw [hm9] at ho9; exact ho9), hs9, hbb9⟩
        have HM9 := hide hm9
        clear ho9 hg9 hs9 hbb9 HO HI HBB hm9))
    clear hn2 hn3 hn8 hnI hsz HN8
    go_loopw [9] (fun bv W => ∃ (n : Nat) (a : Option Addr) (c : Nat), 28 + ps.length ≤ n ∧ n ≤ 508 ∧ bv = .slice a n c ∧ Hid (Own8 W B bv (hd28 hs place next ps.length ++ ps ++ List.replicate (n - (28 + ps.length)) 0) ∧ B ≤ W.heap.size ∧ Below B w1 W)) (fun bv _ => 508 - lenOf bv)
    case atStart => exact ⟨_, _, _, by rw [HM9.out]; exact Nat.le_refl _, by rw [HM9.out]; omega, rfl, HT⟩
    case round =>
     clear HT
     obtain ⟨n, na, nc, hn2, hn3, rfl, HT⟩ := hrel
     by_cases hn8 : n < 508
     · have hnI : (n : Int) < 508 := by omega
       obtain ⟨ho, hsz, hbb⟩ := HT.out
       have hbz := (Below.refl wr.heap.size wr).alloc (Nat.le_refl _) (.cells #[.int .u8 0] 5)
       obtain ⟨ho4, hs4, hbb4⟩ := unhide HZ _ _ _ _ ho hsz hbb hbz
       have HO4 := hide ho4
       have HI4 := hide (isB_lit wr [0] (by decide) (by decide))
       have HBB4 := hide hbb4
       have hl4 : (hd28 hs place next ps.length ++ ps ++ List.replicate (n - (28 + ps.length)) 0).length + [0].length ≤ 140737488355328 := by rw [List.length_append, HL9.out, List.length_replicate]; simp; omega
       clear ho hsz hbb hbz ho4 hbb4 HT
       go_wp2_with (first
        | (at_builtin; refine wpList_appB rfl (.tmp 39) (.tmp 40) rfl rfl HO4.out rfl HI4.out hl4 hs4 ?_; intro v5 w5 ho5 hg5
           obtain ⟨hs5, hbb5⟩ := unhide HY _ _ _ _ HO4.out hs4 HBB4.out hg5
           obtain ⟨a5, m5, c5, rfl⟩ := ho5.shape
           rw [List.append_assoc, ← List.replicate_succ', show n - (28 + ps.length) + 1 = n + 1 - (28 + ps.length) by omega] at ho5
           have hm5 := ho5.isB.lenEq
           rw [List.length_append, HL9.out, List.length_replicate, show 28 + ps.length + (n + 1 - (28 + ps.length)) = n + 1 by omega] at hm5
           subst hm5
           have HT5 := hide (And.intro ho5 (And.intro hs5 hbb5))
           clear ho5 hg5 hs5 hbb5 HO4 HI4 HBB4 hl4))
       go_roundw
       case rel => exact ⟨n + 1, _, _, by omega, by omega, rfl, HT5⟩
       case measure => simp [lenOf]; omega
     · have hnI : ¬ (n : Int) < 508 := by omega
       have HN8 : Hid (n = 508) := hide (by omega)
       obtain ⟨ho, hsz, hbb⟩ := HT.out
       have HO : Hid (Own8 wr B (.slice na n nc) (hdL hs place next ps)) := hide (by rw [HN8.out, show 508 - (28 + ps.length) = 480 - ps.length by omega] at ho; rw [HN8.out]; exact ho)
       have hbs : ∀ x ∈ hdL hs place next ps, 0 ≤ x ∧ x ≤ 255 := hdL_bytes HHB.out (unhide HPP wr hbb).mem _ _
       have hsm := sumOf_lt (xss := [hdL hs place next ps]) (fun xs hxs => by rw [List.mem_singleton.1 hxs]; exact hbs)
       have HSUM := hide (refSumB_calls HO.out.isB)
       have HSEC : Hid (secL hs place next ps = hdL hs place next ps ++ fB (sumOf [hdL hs place next ps]) 4) := hide rfl
       have hl9 : (hdL hs place next ps).length + (fB (sumOf [hdL hs place next ps]) 4).length ≤ 140737488355328 := by rw [hdL_len hh _ _ hpl, fB_len]; decide
       generalize sumOf [hdL hs place next ps] = sm at *
       have hws : IntKind.i64.wrap sm = sm := IntWalk.i64_in _ (by omega)
       have HN9 : Hid (∀ W, Calls Tryd.prog 92 #[.int .i64 sm, .int .i64 4] W fun e w' => ∃ v, e = .returned v ∧ Own8 w' W.heap.size v (fB sm 4) ∧ Below W.heap.size W w') := hide (fun W => refNumber_calls (n := 4) hsm.1 (by decide) (by decide) (Int.ediv_eq_zero_of_lt hsm.1 (by omega)) (by omega))
       have HBB := hide hbb
       clear ho hbb HT hbs
       go_wp2_with fail
       refine (unhide HSUM).mono ?_
       rintro e w5 ⟨rfl, hb5⟩
       obtain ⟨ho5, hs5, hbb5⟩ := unhide HZ _ _ _ _ HO.out hsz HBB.out hb5
       have HO5 := hide ho5
       have HBB5 := hide hbb5
       clear HSUM HO HBB hb5 ho5 hbb5
       go_wp2_with fail
       refine (unhide HN9 w5).mono ?_
       rintro e w6 ⟨v6, rfl, ho6, hb6⟩
       obtain ⟨ho7, hs7, hbb7⟩ := unhide HZ _ _ _ _ HO5.out hs5 HBB5.out hb6
       obtain ⟨a6, m6, c6, rfl⟩ := ho6.shape
       have HI6 := hide ho6.isB
       have HO7 := hide ho7
       have HBB7 := hide hbb7
       clear HN9 HO5 HBB5 ho6 hb6 ho7 hbb7
       go_wp2_with (first
        | (at_builtin; refine wpList_appB rfl (.tmp 42) (.tmp 46) rfl rfl HO7.out rfl HI6.out hl9 hs7 ?_; intro v8 w8 ho8 hg8
           obtain ⟨hs8, hbb8⟩ := unhide HY _ _ _ _ HO7.out hs7 HBB7.out hg8
           have HE8 := hide (And.intro ho8 hbb8)
           clear ho8 hg8 hs8 hbb8))
       go_ret
       refine ⟨_, rfl, ?_, HBW.out.trans (HE8.out.2.mono (by have := HBE.out; omega))⟩
       rw [HSEC.out]
       have h9 := HE8.out.1
       exact ⟨⟨h9.1.1, h9.1.2.imp_right (fun ⟨g, cap, cur, a, b, c⟩ => ⟨g, cap, cur, a, by have := HBE.out; omega, c⟩)⟩, h9.2⟩
end Go.Proofs.YtlofoklfggmbiaaDoor

namespace Go.Proofs.YtlofoklfggmbiaaDoor
open Go.RowKit Go.Maps

/-- A ref's cells. -/
def refV (hs : List Int) (fi le : Int) : List Value := hs.map (Value.int .u8) ++ [.int .i64 fi, .int .i64 le]
theorem refV_len {hs : List Int} (hh : hs.length = 32) (fi le : Int) : (refV hs fi le).length = 34 := by simp [refV, hh]
theorem refV_32 {hs : List Int} (hh : hs.length = 32) (fi le : Int) : (refV hs fi le)[32]? = some (.int .i64 fi) := by
 unfold refV
 rw [List.getElem?_append_right (by simp [hh]), List.length_map, hh]
 rfl
theorem refV_33 {hs : List Int} (hh : hs.length = 32) (fi le : Int) : (refV hs fi le)[33]? = some (.int .i64 le) := by
 unfold refV
 rw [List.getElem?_append_right (by simp [hh]), List.length_map, hh]
 rfl
/-- How many bytes the piece of that place has. -/
def cntI (le place : Int) : Int := min 480 (le - place * 480)
theorem cnt_ok {le place : Int} (h0 : 0 ≤ place) (h1 : place < secN le) : 0 ≤ cntI le place ∧ cntI le place ≤ 480 ∧ 0 ≤ le ∧ le ≤ 1048576 := by
 unfold secN at h1
 unfold cntI
 split at h1
 · omega
 · split at h1 <;> omega
set_option maxRecDepth 100000 in
theorem pieceIn_calls {w : World} {bb bo bc c : Nat} {hs : List Int} {fi le place : Int} (hh : hs.length = 32) (h0 : 0 ≤ place) (h1 : place < secN le) (hc : cntI le place = (c : Int)) (hbc : 512 ≤ bc) (hbm : bc ≤ 9223372036854775807) :
 Calls Tryd.prog 74 #[.slice (some ⟨bb, bo, none⟩) 512 bc, .agg (refV hs fi le).toArray, .int .i64 place] w fun e w' => e = .returned (.slice (some ⟨bb, bo + 28, none⟩) c (bc - 28)) ∧ Below w.heap.size w w' := by
 have hk := cnt_ok h0 h1
 have hs9 := secN_hi le
 have hb0 := (Below.refl w.heap.size w).alloc (Nat.le_refl _) (.cells (refV hs fi le).toArray 34)
 have hc33 : (w.alloc (.cells (refV hs fi le).toArray 34)).cell? ⟨w.heap.size, 33, none⟩ = some (.int .i64 le) := arr_cell (Arr.new w (refV hs fi le) 34) (refV_33 hh fi le)
 have e1 : IntKind.i64.wrap (place * 480) = place * 480 := IntWalk.i64_in _ (by omega)
 have hbn : ¬ bc = 28 := by omega
 have hcs : cntI le place = (c : Int) := hc
 unfold cntI at hcs
 obtain ⟨s, hs⟩ : ∃ s, s = 28 + c := ⟨_, rfl⟩
 have hs1 : (28 : Int) ≤ (s : Int) := by omega
 have hs2 : (s : Int) ≤ (bc : Int) := by omega
 have HB := hide hb0
 have HS := hide hs
 clear hb0 hc hh
 by_cases hlt : le - place * 480 < 480
 · have e2 : IntKind.i64.wrap (le - place * 480) = (c : Int) := by rw [show le - place * 480 = (c : Int) by omega]; exact IntWalk.i64_in _ (by omega)
   have e5 : (c : Int) < 480 := by omega
   have e4 : IntKind.i64.wrap (28 + (c : Int)) = (s : Int) := by rw [show 28 + (c : Int) = (s : Int) by omega]; exact IntWalk.i64_in _ (by omega)
   clear hk hs9 hcs hlt hs h0 h1
   go_enter Tryd.func74, Tryd.ntmps74
   go_wp2
   go_ret
   exact ⟨by rw [HS.out]; simp, HB.out⟩
 · obtain ⟨x, hx⟩ : ∃ x, x = le - place * 480 := ⟨_, rfl⟩
   have e2 : IntKind.i64.wrap (le - place * 480) = x := by rw [← hx]; exact IntWalk.i64_in _ (by omega)
   have e5 : ¬ x < 480 := by omega
   have e6 : (480 : Int) ≤ x := by omega
   have hc480 : c = 480 := by omega
   subst hc480
   have hs508 : s = 508 := by omega
   subst hs508
   have HX := hide hx
   clear hk hs9 hcs hlt hs hx h0 h1 HS
   go_enter Tryd.func74, Tryd.ntmps74
   go_wp2
   go_ret
   exact ⟨rfl, HB.out⟩
theorem equal_calls {w : World} {va vb : Value} {xs ys : List Int} (ha : IsB w va xs) (hb : IsB w vb ys) : Calls Tryd.prog 73 #[va, vb] w fun e w' => e = .returned (.bool (decide (xs = ys))) ∧ w' = w := by
 have c1 := conv_isB ha
 have c2 := conv_isB hb
 have he : ((mkS xs).toList == (mkS ys).toList) = decide (xs = ys) := by
  rw [Bool.eq_iff_iff, beq_iff_eq, decide_eq_true_iff, ByteArray.toList_eq, ByteArray.toList_eq]
  exact ⟨fun h => mkS_inj ha.mem hb.mem (congrArg ByteArray.mk (Array.toList_inj.1 h)), fun h => by rw [h]⟩
 clear ha hb
 go_enter Tryd.func73, Tryd.ntmps73
 go_wp2
 go_ret
 exact ⟨by rfl, rfl⟩
theorem same6_calls {w : World} {va vb : Value} {xs ys : List Int} (ha : IsB w va xs) (hb : IsB w vb ys) : Calls Tryd.prog 18 #[va, vb] w fun e w' => e = .returned (.bool (decide (xs = ys))) ∧ w' = w := by
 have c1 := conv_isB ha
 have c2 := conv_isB hb
 have he : ((mkS xs).toList == (mkS ys).toList) = decide (xs = ys) := by
  rw [Bool.eq_iff_iff, beq_iff_eq, decide_eq_true_iff, ByteArray.toList_eq, ByteArray.toList_eq]
  exact ⟨fun h => mkS_inj ha.mem hb.mem (congrArg ByteArray.mk (Array.toList_inj.1 h)), fun h => by rw [h]⟩
 clear ha hb
 go_enter Tryd.func18, Tryd.ntmps18
 go_wp2
 go_ret
 exact ⟨by rfl, rfl⟩
end Go.Proofs.YtlofoklfggmbiaaDoor

namespace Go.Proofs.YtlofoklfggmbiaaDoor
open Go.RowKit

theorem elemSl : Tryd.prog.underlying 26 = some (.slice (Tryd.prog.elem 26)) := by kernel_rfl
theorem sizeSl (W : World) : (sizeOf (Tryd.prog.elem 26)).run Tryd.prog W = .ok 1 W := by kernel_rfl
/-- Where a part of a slice lies. -/
def subA (a : Option Addr) (cap q : Nat) : Option Addr := if cap = q then a else a.map (·.add q)
theorem IsB.sub {w : World} {a : Option Addr} {n cap : Nat} {xs : List Int} (h : IsB w (.slice a n cap) xs) {q t : Nat} (hq : q ≤ t) (ht : t ≤ n) : IsB w (.slice (subA a cap q) (t - q) (cap - q)) ((xs.drop q).take (t - q)) := by
 have hn := h.lenEq
 obtain ⟨hb, a', cp, hv, hl, hm, hz, hc⟩ := h
 injection hv with e1 e2 e3
 subst e1 e3
 have hlen : ((xs.drop q).take (t - q)).length = t - q := by simp; omega
 have hg : ∀ j, j < t - q → ((xs.drop q).take (t - q))[j]? = xs[q + j]? := fun j hj => by rw [List.getElem?_take_of_lt hj, List.getElem?_drop]
 refine ⟨fun j => ?_, subA a cap q, cap - q, by rw [hlen], by omega, by omega, fun h => ?_, fun hp => ?_⟩
 · by_cases hj : j < t - q
   · rw [hg j hj]; exact hb (q + j)
   · rw [List.getElem?_eq_none (by omega)]; simp
 · unfold subA at h
   by_cases e : cap = q
   · omega
   · rw [if_neg e] at h
     have : a = none := by simpa using h
     have := hz this
     omega
 · obtain ⟨b, off, ha, hcell⟩ := hc (by omega)
   refine ⟨b, off + q, ?_, fun j hj => ?_⟩
   · unfold subA
     rw [if_neg (by omega), ha, Option.map_some, Addr.add_lit]
   · rw [hlen] at hj
     rw [Nat.add_assoc, hcell (q + j) (by omega), List.getD_eq_getElem?_getD, List.getD_eq_getElem?_getD, hg j hj]
theorem slice_h (a : Option Addr) (n cap t : Nat) (ht : t ≤ cap) (W : World) : (Instr.sliceAt 26 (.slice a n cap) none (some (.int .i64 (t : Int))) none).run Tryd.prog W = .ok (.slice (subA a cap 0) t cap) W := by
 rw [run_sliceAt_slice W _ _ _ _ _ elemSl, run_slice_h W _ a n cap elemSl .i64 t (by omega) (by omega), sizeSl]
 simp [Result.andThen, sliced, subA]
theorem slice_l (a : Option Addr) (n cap q : Nat) (hq : q ≤ n) (W : World) : (Instr.sliceAt 26 (.slice a n cap) (some (.int .i64 (q : Int))) none none).run Tryd.prog W = .ok (.slice (subA a cap q) (n - q) (cap - q)) W := by
 rw [run_sliceAt_slice W _ _ _ _ _ elemSl, run_slice_l W _ a n cap elemSl .i64 q (by omega) (by omega), sizeSl]
 simp [Result.andThen, sliced, subA]
end Go.Proofs.YtlofoklfggmbiaaDoor
