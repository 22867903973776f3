/- chain: a reader's Step; stepped to its end. chain: NewReader; what a reader tells. chain: Get. chain, in words: what was put is got. -/
import Derived.Test.YtlofoklfggmbiaaDoorRJ
import Derived.Test.YtlofoklfggmbiaaDoorQV
namespace Go.Proofs.YtlofoklfggmbiaaDoor
open Go.RowKit Go.Maps

/-- What a Step answers. -/
def outB (le : Int) (S : RS) : Bool := if S.br = 0 then decide ((S.ns.length : Int) = secN le) else true
def outE (S : RS) : Int := if S.br = 0 then 0 else 61
theorem readS_ns (b hs : List Int) (fi le : Int) (fr to_ : Nat) (S : RS) : (readS b hs fi le fr to_ S).ns = S.ns ++ [S.nx] := by
 unfold readS
 split
 · split <;> rfl
 · rfl
theorem readS_by (b hs : List Int) (fi le : Int) (fr to_ : Nat) (S : RS) : (readS b hs fi le fr to_ S).by_.length ≤ S.by_.length + (cntI le (S.ns.length : Int)).toNat := by
 unfold readS
 split
 · split
   · simp [failed]
   · simp only [goneOn, List.length_append, partOf, List.length_take]
     omega
 · simp
theorem readS_next {b hs : List Int} {fi le : Int} {fr to_ : Nat} {S : RS} (hx : (S.nx : Int) ≠ 0) (h0 : (readS b hs fi le fr to_ S).br = 0) (hl : ((readS b hs fi le fr to_ S).ns.length : Int) ≠ secN le) : fr ≤ (readS b hs fi le fr to_ S).nx ∧ (readS b hs fi le fr to_ S).nx < to_ := by
 rw [readS_ns, List.length_append, List.length_singleton] at hl
 unfold readS at h0 ⊢
 split at h0
 · rename_i hf
   rw [if_pos hf]
   rw [if_neg (fun h => hl (by omega))]
   rcases hf.2 with h | h
   · exact absurd (by omega) hl
   · unfold hasB at h
     simp only [Bool.and_eq_true, decide_eq_true_eq] at h
     simp only [goneOn]
     omega
 · exact absurd h0 hx
set_option maxRecDepth 100000 in
set_option maxHeartbeats 4000000 in
theorem rstep_read {w : World} {B p gl gm pr up ug fr to_ : Nat} {V : Nat → Value} {D : AD} {hs : List Int} {fi le : Int} {nv bv : Value} {S : RS} (hD : Dk w p gl gm V D) (hR : Rd w B p pr up ug hs fi le fr to_ nv bv S) (hE : Env w p gl gm V pr up ug nv bv) (hx : S.nx < D.la.length) (hr0 : 0 ≤ D.rd) (hr1 : D.rd ≤ 1152921504606846976) (hT : TT w) (hB : B ≤ w.heap.size) (hns : (S.ns.length : Int) < secN le) (hby : S.by_.length ≤ 2000000) (hbr : S.br = 0) :
 Calls Tryd.prog 22 #[.pointer (some ⟨pr, 0, none⟩)] w fun e w' => e = .returned (.tuple #[.bool (outB le (readS (D.now S.nx) hs fi le fr to_ S)), .int .i64 (outE (readS (D.now S.nx) hs fi le fr to_ S))]) ∧ ∃ nv' bv', Rd w' B p pr up ug hs fi le fr to_ nv' bv' (readS (D.now S.nx) hs fi le fr to_ S) ∧ Dk w' p gl gm V D.read ∧ (∀ b, Fr pr up ug nv' bv' b → Fr pr up ug nv bv b ∨ w.heap.size ≤ b) ∧ Up (fun b => b = p ∨ Fr pr up ug nv bv b) w w' := by
 obtain ⟨_, _, c34, _, c36, _, _, _, c40⟩ := hR.cells
 rw [hbr] at c40
 have hne : ((S.ns.length : Int) == secN le) = false := by simp; omega
 have HB1 := hide (behind_calls c36 c34)
 rw [hne] at HB1
 have hb1 : Below w.heap.size w w.drew := (Below.refl _ _).drew
 have hEd : Env w.drew p gl gm V pr up ug nv bv := ⟨hE.flt, hE.rlt, hE.hX, hE.gF, hE.gR, hE.gs⟩
 have HRD := hide (rread_calls (hD.below hb1) (hR.below hb1) hEd hx hr0 hr1 (hT.below hb1) hB hns hby hbr)
 obtain ⟨R, hRe⟩ : ∃ R, R = readS (D.now S.nx) hs fi le fr to_ S := ⟨_, rfl⟩
 rw [← hRe] at HRD ⊢
 obtain ⟨ob, hob⟩ : ∃ ob, ob = outB le R := ⟨_, rfl⟩
 obtain ⟨oe, hoe⟩ : ∃ oe, oe = outE R := ⟨_, rfl⟩
 rw [← hob, ← hoe]
 have HOB := hide hob
 have HOE := hide hoe
 clear hD hR hE hx hr0 hr1 hT hB hns hby hbr c34 c36 hne hb1 hRe hEd hob hoe
 go_enter Tryd.func22, Tryd.ntmps22
 go_wp2_with fail
 refine (unhide HB1).mono ?_
 rintro e w1 ⟨rfl, hw1⟩
 rw [← hw1] at HRD
 have hbw : Below w.heap.size w w1 := by rw [hw1]; exact (Below.refl _ _).drew
 clear HB1 hw1 c40
 go_wp2_with fail
 refine (unhide HRD).mono ?_
 rintro e w2 ⟨rfl, nv', bv', h1, h2, h3, h4⟩
 obtain ⟨_, _, k34, _, k36, _, _, _, k40⟩ := h1.cells
 have HX : Hid (∃ nv' bv', Rd w2 B p pr up ug hs fi le fr to_ nv' bv' R ∧ Dk w2 p gl gm V D.read ∧ (∀ b, Fr pr up ug nv' bv' b → Fr pr up ug nv bv b ∨ w.heap.size ≤ b) ∧ Up (fun b => b = p ∨ Fr pr up ug nv bv b) w w2) := hide ⟨nv', bv', h1, h2, fun b hb => (h3 b hb).imp id (fun h => Nat.le_trans hbw.size h), (Up.of_below hbw).trans h4 (fun _ h => Or.inl h)⟩
 clear HRD h1 h2 h3 h4 hbw
 by_cases hz : R.br = 0
 · have e2 : oe = 0 := by rw [HOE.out]; unfold outE; rw [if_pos hz]
   have e1 : ob = ((R.ns.length : Int) == secN le) := by rw [HOB.out]; unfold outB; rw [if_pos hz]; rfl
   rw [hz] at k40
   have HB2 := hide (behind_calls k36 k34)
   rw [← e1] at HB2
   subst e2
   clear hz e1 k34 k36 HOB HOE
   go_wp2_with fail
   refine (unhide HB2).mono ?_
   rintro e w3 ⟨rfl, hw3⟩
   have hb3 : Below w2.heap.size w2 w3 := by rw [hw3]; exact (Below.refl _ _).drew
   clear hw3 HB2 k40
   go_wp2
   go_ret2
   obtain ⟨nv', bv', h1, h2, h3, h4⟩ := HX.out
   exact ⟨rfl, nv', bv', h1.below hb3, h2.below hb3, h3, h4.then_below hb3⟩
 · have e2 : oe = 61 := by rw [HOE.out]; unfold outE; rw [if_neg hz]
   have e1 : ob = true := by rw [HOB.out]; unfold outB; rw [if_neg hz]
   subst e1 e2
   generalize R.br = z at hz k40
   clear k34 k36 HOB HOE
   go_wp2
   go_ret2
   exact ⟨rfl, HX.out⟩
/-- So many Reads more. -/
def AD.reads (D : AD) (n : Nat) : AD := { D with rd := D.rd + (n : Int) }
theorem reads_succ (D : AD) (n : Nat) : (D.reads n).read = D.reads (n + 1) := by
 show ({ D with rd := D.rd + (n : Int) + 1 } : AD) = { D with rd := D.rd + ((n + 1 : Nat) : Int) }
 congr 1
 omega
theorem reads_zero (D : AD) : D.reads 0 = D := by
 cases D
 simp [AD.reads]
/-- Read on till the end. -/
def goS (N : Nat → List Int) (hs : List Int) (fi le : Int) (fr to_ : Nat) : Nat → RS → RS
 | 0, S => S
 | n + 1, S => if (readS (N S.nx) hs fi le fr to_ S).br ≠ 0 ∨ ((readS (N S.nx) hs fi le fr to_ S).ns.length : Int) = secN le then readS (N S.nx) hs fi le fr to_ S else goS N hs fi le fr to_ n (readS (N S.nx) hs fi le fr to_ S)
/-- A reader on its way. -/
structure Rgo (w wr : World) (B p gl gm pr up ug fr to_ : Nat) (V : Nat → Value) (D : AD) (hs : List Int) (fi le : Int) (nv bv : Value) (n : Nat) (nv' bv' : Value) (S : RS) : Prop where
 rd : Rd wr B p pr up ug hs fi le fr to_ nv' bv' S
 dk : Dk wr p gl gm V (D.reads n)
 ft : ∀ b, Fr pr up ug nv' bv' b → Fr pr up ug nv bv b ∨ w.heap.size ≤ b
 up : Up (fun b => b = p ∨ Fr pr up ug nv bv b) w wr
/-- What a reader needs to read on. -/
structure Ron (to_ fr : Nat) (D : AD) (le : Int) (S : RS) : Prop where
 nxt : S.nx < to_
 low : fr ≤ S.nx
 pos : 1 ≤ fr
 top : to_ = D.la.length
 ns : (S.ns.length : Int) < secN le
 by_ : S.by_.length ≤ 480 * S.ns.length
 br : S.br = 0
theorem Rgo.step {w wr : World} {B p gl gm pr up ug fr to_ : Nat} {V : Nat → Value} {D : AD} {hs : List Int} {fi le : Int} {nv bv nv' bv' : Value} {n : Nat} {S : RS} (h : Rgo w wr B p gl gm pr up ug fr to_ V D hs fi le nv bv n nv' bv' S) (hE : Env w p gl gm V pr up ug nv bv) (hT : TT w) (hB : B ≤ w.heap.size) (hr0 : 0 ≤ D.rd) (hr1 : D.rd ≤ 1152921504606840000) (hn : n ≤ 5000) (ho : Ron to_ fr D le S) :
 Calls Tryd.prog 22 #[.pointer (some ⟨pr, 0, none⟩)] wr fun e w' => e = .returned (.tuple #[.bool (outB le (readS (D.now S.nx) hs fi le fr to_ S)), .int .i64 (outE (readS (D.now S.nx) hs fi le fr to_ S))]) ∧ ∃ nv2 bv2, Rgo w w' B p gl gm pr up ug fr to_ V D hs fi le nv bv (n + 1) nv2 bv2 (readS (D.now S.nx) hs fi le fr to_ S) := by
 have hs9 := secN_hi le
 have hsz := h.up.size
 have hE2 : Env wr p gl gm V pr up ug nv' bv' := by
  refine ⟨fun x hx => Nat.lt_of_lt_of_le (hE.flt x hx) hsz, fun x hx => h.rd.lt hx, fun x hx hf => ?_, hE.gF, fun x hx => ?_, Nat.le_trans hE.gs hsz⟩
  · rcases h.ft x hx with h1 | h1
    · exact hE.hX x h1 hf
    · have := hE.flt x hf; omega
  · rcases h.ft x hx with h1 | h1
    · exact hE.gR x h1
    · exact Nat.le_trans hE.gs h1
 have hT2 : TT wr := hT.up h.up (fun b hb => by
  rcases hb with rfl | hb
  · exact hE.gF _ (Or.inl rfl)
  · exact hE.gR _ hb)
 have hnx := ho.nxt
 have htop := ho.top
 have hby := ho.by_
 have hns := ho.ns
 refine (rstep_read h.dk h.rd hE2 (by show S.nx < D.la.length; omega) (by show 0 ≤ D.rd + (n : Int); omega) (by show D.rd + (n : Int) ≤ _; omega) hT2 (by omega) hns (by omega) ho.br).mono ?_
 rintro e w' ⟨rfl, nv2, bv2, h1, h2, h3, h4⟩
 refine ⟨rfl, nv2, bv2, h1, by rw [reads_succ] at h2; exact h2, fun b hb => ?_, h.up.trans h4 (fun x hx => ?_)⟩
 · rcases h3 b hb with hb | hb
   · exact h.ft b hb
   · exact Or.inr (Nat.le_trans hsz hb)
 · rcases hx with hx | hx
   · exact Or.inl (Or.inl hx)
   · exact (h.ft x hx).imp Or.inr id
theorem Ron.step {to_ fr : Nat} {D : AD} {hs : List Int} {fi le : Int} {S : RS} (h : Ron to_ fr D le S) (h0 : (readS (D.now S.nx) hs fi le fr to_ S).br = 0) (hl : ((readS (D.now S.nx) hs fi le fr to_ S).ns.length : Int) ≠ secN le) : Ron to_ fr D le (readS (D.now S.nx) hs fi le fr to_ S) := by
 have h1 := readS_next (by have := h.low; have := h.pos; omega) h0 hl
 have h2 := readS_by (D.now S.nx) hs fi le fr to_ S
 have h3 := cnt_ok (le := le) (place := (S.ns.length : Int)) (by omega) h.ns
 have h4 := h.by_
 have h5 := h.ns
 refine ⟨h1.2, h1.1, h.pos, h.top, ?_, ?_, h0⟩
 · rw [readS_ns, List.length_append, List.length_singleton] at hl ⊢
   omega
 · rw [readS_ns, List.length_append, List.length_singleton]
   omega
theorem rstep_method (a : Addr) (W : World) : (method 255 56 (.pointer (some a)) "Step").run Tryd.prog W = .ok (22, .pointer (some a)) W := by kernel_rfl
theorem Rgo.cell36 {w wr : World} {B p gl gm pr up ug fr to_ : Nat} {V : Nat → Value} {D : AD} {hs : List Int} {fi le : Int} {nv bv nv' bv' : Value} {n : Nat} {S : RS} (h : Rgo w wr B p gl gm pr up ug fr to_ V D hs fi le nv bv n nv' bv' S) : cellN wr ⟨pr, 36, none⟩ = S.ns.length := by
 obtain ⟨_, _, _, _, c36, _⟩ := h.rd.cells
 unfold cellN
 rw [c36]
 simp
set_option maxRecDepth 100000 in
set_option maxHeartbeats 4000000 in
theorem finish_r {w : World} {B p gl gm pr up ug fr to_ k : Nat} {V : Nat → Value} {D : AD} {hs : List Int} {fi le : Int} {nv bv : Value} {S : RS} (hD : Dk w p gl gm V D) (hR : Rd w B p pr up ug hs fi le fr to_ nv bv S) (hE : Env w p gl gm V pr up ug nv bv) (hT : TT w) (hB : B ≤ w.heap.size) (hr0 : 0 ≤ D.rd) (hr1 : D.rd ≤ 1152921504606840000) (ho : Ron to_ fr D le S) (hk : secN le = (S.ns.length + k : Int)) :
 Calls Tryd.prog 43 #[.iface 56 (.pointer (some ⟨pr, 0, none⟩))] w fun e w' => e = .returned (.int .i64 (outE (goS D.now hs fi le fr to_ k S))) ∧ ∃ n nv' bv', Rgo w w' B p gl gm pr up ug fr to_ V D hs fi le nv bv n nv' bv' (goS D.now hs fi le fr to_ k S) ∧ (goS D.now hs fi le fr to_ k S).ns.length = S.ns.length + n ∧ outB le (goS D.now hs fi le fr to_ k S) = true := by
 have hs9 := secN_hi le
 have hns := ho.ns
 have hsn : ∃ sn : Nat, secN le = (sn : Int) := ⟨(secN le).toNat, by have := secN_lo le; omega⟩
 obtain ⟨sn, hsn⟩ := hsn
 obtain ⟨G, hG⟩ : ∃ G, G = goS D.now hs fi le fr to_ k S := ⟨_, rfl⟩
 rw [← hG]
 have h0 : Rgo w w B p gl gm pr up ug fr to_ V D hs fi le nv bv 0 nv bv S := ⟨hR, by rw [reads_zero]; exact hD, fun b hb => Or.inl hb, Up.refl _ _⟩
 have HST : Hid (∀ n W nv' bv' S', n ≤ 5000 → Ron to_ fr D le S' → Rgo w W B p gl gm pr up ug fr to_ V D hs fi le nv bv n nv' bv' S' → Calls Tryd.prog 22 #[.pointer (some ⟨pr, 0, none⟩)] W fun e w' => e = .returned (.tuple #[.bool (outB le (readS (D.now S'.nx) hs fi le fr to_ S')), .int .i64 (outE (readS (D.now S'.nx) hs fi le fr to_ S'))]) ∧ ∃ nv2 bv2, Rgo w w' B p gl gm pr up ug fr to_ V D hs fi le nv bv (n + 1) nv2 bv2 (readS (D.now S'.nx) hs fi le fr to_ S')) := hide (fun n W nv' bv' S' hn ho h => h.step hE hT hB hr0 hr1 hn ho)
 have H0 : Hid (∃ n nv' bv' S', Rgo w w B p gl gm pr up ug fr to_ V D hs fi le nv bv n nv' bv' S' ∧ Ron to_ fr D le S' ∧ S'.ns.length = S.ns.length + n ∧ n + 1 ≤ k ∧ goS D.now hs fi le fr to_ (k - n) S' = G) := hide ⟨0, nv, bv, S, h0, ho, rfl, by omega, by rw [Nat.sub_zero, hG]⟩
 have HK : Hid (k + S.ns.length = sn ∧ sn ≤ 2185 ∧ secN le = (sn : Int)) := hide ⟨by omega, by omega, hsn⟩
 clear hD hR hE hT hB hr0 hr1 ho hk hs9 hns hsn hG h0
 go_enter Tryd.func43, Tryd.ntmps43
 go_wp2_with fail
 go_loopw [] (fun wr => Hid (∃ n nv' bv' S', Rgo w wr B p gl gm pr up ug fr to_ V D hs fi le nv bv n nv' bv' S' ∧ Ron to_ fr D le S' ∧ S'.ns.length = S.ns.length + n ∧ n + 1 ≤ k ∧ goS D.now hs fi le fr to_ (k - n) S' = G)) (fun wr => sn - cellN wr ⟨pr, 36, none⟩)
 case atStart => exact H0
 case round =>
  have hmeth := rstep_method ⟨pr, 0, none⟩
  obtain ⟨n, nv', bv', S', hg, ho, hl, hn, hG⟩ := hrel.out
  obtain ⟨hk1, hk2, hk3⟩ := HK.out
  have HS1 := hide (unhide HST n wr nv' bv' S' (by omega) ho hg)
  have HCL := hide hg.cell36
  obtain ⟨R, hRe⟩ : ∃ R, R = readS (D.now S'.nx) hs fi le fr to_ S' := ⟨_, rfl⟩
  rw [← hRe] at HS1
  have hRl : R.ns.length = S'.ns.length + 1 := by rw [hRe, readS_ns]; simp
  have hgo : goS D.now hs fi le fr to_ (k - n) S' = if R.br ≠ 0 ∨ (R.ns.length : Int) = secN le then R else goS D.now hs fi le fr to_ (k - (n + 1)) R := by
   rw [show k - n = (k - (n + 1)) + 1 by omega, goS, ← hRe]
  rw [hG] at hgo
  by_cases hend : R.br ≠ 0 ∨ (R.ns.length : Int) = secN le
  · rw [if_pos hend] at hgo
    have hob : outB le R = true := by
     unfold outB
     by_cases hz : R.br = 0
     · rw [if_pos hz]
       rcases hend with h | h
       · exact absurd hz h
       · exact decide_eq_true h
     · rw [if_neg hz]
    rw [hob] at HS1
    have HE1 : Hid (G = R ∧ R.ns.length = S.ns.length + (n + 1) ∧ outB le R = true) := hide ⟨hgo, by omega, hob⟩
    generalize hoe : outE R = oe at HS1
    have HOE := hide hoe
    clear hg ho hl hn hG hk1 hk2 hk3 hRl hgo hend hob hoe hRe HST hrel HCL
    go_wp2_with fail
    refine (unhide HS1).mono ?_
    rintro e w2 ⟨rfl, nv2, bv2, hg2⟩
    have HG2 := hide hg2
    clear hg2 HS1
    go_wp2
    go_ret
    obtain ⟨e1, e2, e3⟩ := HE1.out
    refine ⟨by rw [e1, HOE.out]; rfl, n + 1, nv2, bv2, ?_, by rw [e1]; exact e2, by rw [e1]; exact e3⟩
    rw [e1]
    exact HG2.out
  · rw [if_neg hend] at hgo
    have hz : R.br = 0 := Decidable.byContradiction (fun h => hend (Or.inl h))
    have hnl : (R.ns.length : Int) ≠ secN le := fun h => hend (Or.inr h)
    have hob : outB le R = false := by unfold outB; rw [if_pos hz]; exact decide_eq_false hnl
    have hoe : outE R = 0 := by unfold outE; rw [if_pos hz]
    rw [hob, hoe] at HS1
    have hoR : Ron to_ fr D le R := by rw [hRe]; exact ho.step (by rw [← hRe]; exact hz) (by rw [← hRe]; exact hnl)
    have HR1 : Hid (Ron to_ fr D le R ∧ R.ns.length = S.ns.length + (n + 1) ∧ (n + 1) + 1 ≤ k ∧ goS D.now hs fi le fr to_ (k - (n + 1)) R = G ∧ S'.ns.length < sn ∧ R.ns.length = S'.ns.length + 1) := hide ⟨hoR, by omega, by have := hoR.ns; omega, hgo.symm, by have := ho.ns; omega, hRl⟩
    clear hg ho hl hn hG hk1 hk2 hk3 hRl hgo hend hob hoe hRe HST hrel hz hnl hoR
    go_wp2_with fail
    refine (unhide HS1).mono ?_
    rintro e w2 ⟨rfl, nv2, bv2, hg2⟩
    obtain ⟨r1, r2, r3, r4, r5, r6⟩ := HR1.out
    have HC2 := hide hg2.cell36
    have HG2 : Hid (∃ n nv' bv' S', Rgo w w2 B p gl gm pr up ug fr to_ V D hs fi le nv bv n nv' bv' S' ∧ Ron to_ fr D le S' ∧ S'.ns.length = S.ns.length + n ∧ n + 1 ≤ k ∧ goS D.now hs fi le fr to_ (k - n) S' = G) := hide ⟨n + 1, nv2, bv2, R, hg2, r1, r2, r3, r4⟩
    clear hg2 HS1 r1 r2 r3 r4
    have HR5 := hide (And.intro r5 r6)
    clear r5 r6 HR1
    go_wp2
    go_roundw
    case rel => exact HG2
    case measure => rw [HC2.out, HCL.out]; have := HR5.out; omega
end Go.Proofs.YtlofoklfggmbiaaDoor

namespace Go.Proofs.YtlofoklfggmbiaaDoor
open Go.RowKit Go.Maps

theorem buildStand2_run_x (a0 a1 a2 a3 a4 a5 a6 a7 a8 a9 b0 b1 b2 b3 b4 b5 b6 b7 b8 b9 c0 c1 c2 c3 c4 c5 c6 c7 c8 c9 d0 d1 : Int) (p : Nat) (fi le : Int) (W : World) : (Instr.build 66 #[(0, .pointer (some ⟨p, 0, none⟩)), (1, .agg (refV [a0, a1, a2, a3, a4, a5, a6, a7, a8, a9, b0, b1, b2, b3, b4, b5, b6, b7, b8, b9, c0, c1, c2, c3, c4, c5, c6, c7, c8, c9, d0, d1] fi le).toArray)]).run Tryd.prog W = .ok (.agg (standV p [a0, a1, a2, a3, a4, a5, a6, a7, a8, a9, b0, b1, b2, b3, b4, b5, b6, b7, b8, b9, c0, c1, c2, c3, c4, c5, c6, c7, c8, c9, d0, d1] fi le (.slice none 0 0) 0).toArray) W := by kernel_rfl
theorem buildStand2_run {hs : List Int} (hh : hs.length = 32) (p : Nat) (fi le : Int) (W : World) : (Instr.build 66 #[(0, .pointer (some ⟨p, 0, none⟩)), (1, .agg (refV hs fi le).toArray)]).run Tryd.prog W = .ok (.agg (standV p hs fi le (.slice none 0 0) 0).toArray) W := by
 match hs, hh with
 | [a0, a1, a2, a3, a4, a5, a6, a7, a8, a9, b0, b1, b2, b3, b4, b5, b6, b7, b8, b9, c0, c1, c2, c3, c4, c5, c6, c7, c8, c9, d0, d1], _ => exact buildStand2_run_x a0 a1 a2 a3 a4 a5 a6 a7 a8 a9 b0 b1 b2 b3 b4 b5 b6 b7 b8 b9 c0 c1 c2 c3 c4 c5 c6 c7 c8 c9 d0 d1 p fi le W
theorem buildReader_run_x (a0 a1 a2 a3 a4 a5 a6 a7 a8 a9 b0 b1 b2 b3 b4 b5 b6 b7 b8 b9 c0 c1 c2 c3 c4 c5 c6 c7 c8 c9 d0 d1 : Int) (p up : Nat) (fi le nx : Int) (W : World) : (Instr.build 68 #[(0, .agg (standV p [a0, a1, a2, a3, a4, a5, a6, a7, a8, a9, b0, b1, b2, b3, b4, b5, b6, b7, b8, b9, c0, c1, c2, c3, c4, c5, c6, c7, c8, c9, d0, d1] fi le (.slice none 0 0) 0).toArray), (1, .pointer (some ⟨up, 0, none⟩)), (2, .int .i64 nx)]).run Tryd.prog W = .ok (.agg (readerV p [a0, a1, a2, a3, a4, a5, a6, a7, a8, a9, b0, b1, b2, b3, b4, b5, b6, b7, b8, b9, c0, c1, c2, c3, c4, c5, c6, c7, c8, c9, d0, d1] fi le (.slice none 0 0) 0 up nx (.slice none 0 0) 0).toArray) W := by kernel_rfl
theorem buildReader_run {hs : List Int} (hh : hs.length = 32) (p up : Nat) (fi le nx : Int) (W : World) : (Instr.build 68 #[(0, .agg (standV p hs fi le (.slice none 0 0) 0).toArray), (1, .pointer (some ⟨up, 0, none⟩)), (2, .int .i64 nx)]).run Tryd.prog W = .ok (.agg (readerV p hs fi le (.slice none 0 0) 0 up nx (.slice none 0 0) 0).toArray) W := by
 match hs, hh with
 | [a0, a1, a2, a3, a4, a5, a6, a7, a8, a9, b0, b1, b2, b3, b4, b5, b6, b7, b8, b9, c0, c1, c2, c3, c4, c5, c6, c7, c8, c9, d0, d1], _ => exact buildReader_run_x a0 a1 a2 a3 a4 a5 a6 a7 a8 a9 b0 b1 b2 b3 b4 b5 b6 b7 b8 b9 c0 c1 c2 c3 c4 c5 c6 c7 c8 c9 d0 d1 p up fi le nx W
theorem boxReader_run_x (a0 a1 a2 a3 a4 a5 a6 a7 a8 a9 b0 b1 b2 b3 b4 b5 b6 b7 b8 b9 c0 c1 c2 c3 c4 c5 c6 c7 c8 c9 d0 d1 : Int) (p up : Nat) (fi le nx : Int) (W : World) : (Instr.box 68 (.agg (readerV p [a0, a1, a2, a3, a4, a5, a6, a7, a8, a9, b0, b1, b2, b3, b4, b5, b6, b7, b8, b9, c0, c1, c2, c3, c4, c5, c6, c7, c8, c9, d0, d1] fi le (.slice none 0 0) 0 up nx (.slice none 0 0) 0).toArray)).run Tryd.prog W = .ok (.pointer (some ⟨W.heap.size, 0, none⟩)) (W.alloc (.cells (readerV p [a0, a1, a2, a3, a4, a5, a6, a7, a8, a9, b0, b1, b2, b3, b4, b5, b6, b7, b8, b9, c0, c1, c2, c3, c4, c5, c6, c7, c8, c9, d0, d1] fi le (.slice none 0 0) 0 up nx (.slice none 0 0) 0).toArray 68)) := by kernel_rfl
theorem boxReader_run {hs : List Int} (hh : hs.length = 32) (p up : Nat) (fi le nx : Int) (W : World) : (Instr.box 68 (.agg (readerV p hs fi le (.slice none 0 0) 0 up nx (.slice none 0 0) 0).toArray)).run Tryd.prog W = .ok (.pointer (some ⟨W.heap.size, 0, none⟩)) (W.alloc (.cells (readerV p hs fi le (.slice none 0 0) 0 up nx (.slice none 0 0) 0).toArray 68)) := by
 match hs, hh with
 | [a0, a1, a2, a3, a4, a5, a6, a7, a8, a9, b0, b1, b2, b3, b4, b5, b6, b7, b8, b9, c0, c1, c2, c3, c4, c5, c6, c7, c8, c9, d0, d1], _ => exact boxReader_run_x a0 a1 a2 a3 a4 a5 a6 a7 a8 a9 b0 b1 b2 b3 b4 b5 b6 b7 b8 b9 c0 c1 c2 c3 c4 c5 c6 c7 c8 c9 d0 d1 p up fi le nx W
section
variable {ops : Array Oper} {rest : List Oper} {o : Oper} {a : Act} {Q : Exit → Act → World → Prop} {w : World}
theorem wpList_build2 (hgd : o.guard = none) (t : TypeId) (x y : Operand) (ho : o.op = .build t #[(0, x), (1, y)]) {vx vy v : Value} (hx : a.eval x = vx) (hy : a.eval y = vy) (hrun : (Instr.build t #[(0, vx), (1, vy)]).run Tryd.prog w = .ok v w) (hk : wpList Tryd.prog ops Q rest (a.put o.dst v) w) : wpList Tryd.prog ops Q (o :: rest) a w := by
 refine wpList_plain hgd fun K hK => ?_
 unfold Oper.wp execOp
 simp only [ho, List.map_toArray, List.map_cons, List.map_nil, hx, hy, Sem.run_bind, hrun, Result.andThen_ok, Sem.run_pure]
 exact hK _ _ hk
theorem wpList_build3 (hgd : o.guard = none) (t : TypeId) (x y z : Operand) (ho : o.op = .build t #[(0, x), (1, y), (2, z)]) {vx vy vz v : Value} (hx : a.eval x = vx) (hy : a.eval y = vy) (hz : a.eval z = vz) (hrun : (Instr.build t #[(0, vx), (1, vy), (2, vz)]).run Tryd.prog w = .ok v w) (hk : wpList Tryd.prog ops Q rest (a.put o.dst v) w) : wpList Tryd.prog ops Q (o :: rest) a w := by
 refine wpList_plain hgd fun K hK => ?_
 unfold Oper.wp execOp
 simp only [ho, List.map_toArray, List.map_cons, List.map_nil, hx, hy, hz, Sem.run_bind, hrun, Result.andThen_ok, Sem.run_pure]
 exact hK _ _ hk
theorem wpList_box (hgd : o.guard = none) (t : TypeId) (x : Operand) (ho : o.op = .box t x) {v r : Value} {w' : World} (hx : a.eval x = v) (hrun : (Instr.box t v).run Tryd.prog w = .ok r w') (hk : wpList Tryd.prog ops Q rest (a.put o.dst r) w') : wpList Tryd.prog ops Q (o :: rest) a w := by
 refine wpList_plain hgd fun K hK => ?_
 unfold Oper.wp execOp
 simp only [ho, hx, Sem.run_bind, hrun, Result.andThen_ok, Sem.run_pure]
 exact hK _ _ hk
end
set_option maxRecDepth 100000 in
theorem newReader_nil {w : World} (heap : Int) (hs : List Int) (fi le : Int) : Calls Tryd.prog 20 #[.pointer none, .int .i64 heap, .agg (refV hs fi le).toArray] w fun e w' => e = .returned (.tuple #[.pointer none, .int .i64 1]) ∧ Below w.heap.size w w' := by
 have hb0 := (Below.refl w.heap.size w).alloc (Nat.le_refl _) (.cells (refV hs fi le).toArray 34)
 have HB := hide hb0
 clear hb0
 go_enter Tryd.func20, Tryd.ntmps20
 go_wp2
 go_ret2
 exact ⟨rfl, HB.out⟩
set_option maxRecDepth 100000 in
set_option maxHeartbeats 1000000 in
theorem newReader_arg {w : World} {p gl gm : Nat} {V : Nat → Value} {D : AD} (hD : Dk w p gl gm V D) (heap : Int) (hs : List Int) (fi le : Int) (hh : heap < 1 ∨ (D.la.length : Int) < heap) : Calls Tryd.prog 20 #[.pointer (some ⟨p, 0, none⟩), .int .i64 heap, .agg (refV hs fi le).toArray] w fun e w' => e = .returned (.tuple #[.pointer none, .int .i64 1]) ∧ Below w.heap.size w w' := by
 have hb0 := (Below.refl w.heap.size w).alloc (Nat.le_refl _) (.cells (refV hs fi le).toArray 34)
 have HB := hide hb0
 have HDS := hide (sectors_calls (hD.below hb0).cells.1)
 generalize D.la.length = sd at *
 clear hb0 hD
 by_cases h1 : heap < 1
 · clear hh
   go_enter Tryd.func20, Tryd.ntmps20
   go_wp2
   go_ret2
   exact ⟨rfl, HB.out⟩
 · have h2 : (sd : Int) < heap := by omega
   clear hh
   go_enter Tryd.func20, Tryd.ntmps20
   go_wp2_with fail
   refine (unhide HDS).mono ?_
   rintro e w1 ⟨rfl, hw1⟩
   have HB1 : Hid (Below w.heap.size w w1) := by rw [hw1]; exact HB
   clear hw1 HDS
   go_wp2
   go_ret2
   exact ⟨rfl, HB1.out⟩
set_option maxRecDepth 100000 in
set_option maxHeartbeats 1000000 in
theorem newReader_long {w : World} {p gl gm heap : Nat} {V : Nat → Value} {D : AD} (hD : Dk w p gl gm V D) {hs : List Int} (hl : hs.length = 32) (fi le : Int) (h1 : 1 ≤ heap) (h2 : heap ≤ D.la.length) (hz : secN le = 0) : Calls Tryd.prog 20 #[.pointer (some ⟨p, 0, none⟩), .int .i64 (heap : Int), .agg (refV hs fi le).toArray] w fun e w' => e = .returned (.tuple #[.pointer none, .int .i64 2]) ∧ Below w.heap.size w w' := by
 have hb0 := (Below.refl w.heap.size w).alloc (Nat.le_refl _) (.cells (refV hs fi le).toArray 34)
 have hc33 : (w.alloc (.cells (refV hs fi le).toArray 34)).cell? ⟨w.heap.size, 33, none⟩ = some (.int .i64 le) := arr_cell (Arr.new w (refV hs fi le) 34) (refV_33 hl fi le)
 have HB := hide hb0
 have HDS := hide (sectors_calls (hD.below hb0).cells.1)
 have HSN := hide (fun W => chSectors_calls le W)
 rw [hz] at HSN
 generalize D.la.length = sd at *
 have h1I : ¬ (heap : Int) < 1 := by omega
 have h2I : ¬ (sd : Int) < (heap : Int) := by omega
 have h2N : ¬ sd < heap := by omega
 clear hb0 hD hz h1 h2 hl
 go_enter Tryd.func20, Tryd.ntmps20
 go_wp2_with fail
 refine (unhide HDS).mono ?_
 rintro e w1 ⟨rfl, hw1⟩
 obtain rfl := hw1.symm
 clear HDS
 go_wp2_with fail
 refine (unhide HSN _).mono ?_
 rintro e w2 ⟨rfl, hw2⟩
 obtain rfl := hw2.symm
 clear HSN
 go_wp2
 go_ret2
 exact ⟨rfl, HB.out⟩
set_option maxRecDepth 100000 in
set_option maxHeartbeats 2000000 in
theorem newReader_none {w : World} {p gl gm heap : Nat} {V : Nat → Value} {D : AD} (hD : Dk w p gl gm V D) {hs : List Int} (hl : hs.length = 32) (fi le : Int) (h1 : 1 ≤ heap) (h2 : heap = D.la.length) (hz : secN le ≠ 0) : Calls Tryd.prog 20 #[.pointer (some ⟨p, 0, none⟩), .int .i64 (heap : Int), .agg (refV hs fi le).toArray] w fun e w' => e = .returned (.tuple #[.pointer none, .int .i64 61]) ∧ Below w.heap.size w w' := by
 have hb0 := (Below.refl w.heap.size w).alloc (Nat.le_refl _) (.cells (refV hs fi le).toArray 34)
 have hc33 : (w.alloc (.cells (refV hs fi le).toArray 34)).cell? ⟨w.heap.size, 33, none⟩ = some (.int .i64 le) := arr_cell (Arr.new w (refV hs fi le) 34) (refV_33 hl fi le)
 have HB := hide hb0
 have HDS := hide (sectors_calls (hD.below hb0).cells.1)
 have HSN := hide (fun W => chSectors_calls le W)
 rw [← h2] at HDS
 have HNO := hide (new_no (w := w.alloc (.cells (refV hs fi le).toArray 34)) (heap : Int) (heap : Int) (Or.inr (Or.inl (Int.le_refl _))))
 generalize secN le = sn at *
 have h1I : ¬ (heap : Int) < 1 := by omega
 clear hb0 hD h1 h2 hl
 go_enter Tryd.func20, Tryd.ntmps20
 go_wp2_with fail
 refine (unhide HDS).mono ?_
 rintro e w1 ⟨rfl, hw1⟩
 obtain rfl := hw1.symm
 go_wp2_with fail
 refine (unhide HSN _).mono ?_
 rintro e w2 ⟨rfl, hw2⟩
 obtain rfl := hw2.symm
 clear HSN
 go_wp2_with fail
 refine (unhide HDS).mono ?_
 rintro e w1 ⟨rfl, hw1⟩
 obtain rfl := hw1.symm
 clear HDS
 go_wp2_with fail
 refine (unhide HNO).mono ?_
 rintro e w3 ⟨rfl, hw3⟩
 have HB3 := hide (below_then HB.out hw3)
 clear HNO hw3
 go_wp2
 go_ret2
 exact ⟨rfl, HB3.out⟩
set_option maxRecDepth 100000 in
set_option maxHeartbeats 2000000 in
theorem newReader_first {w : World} {p gl gm heap : Nat} {V : Nat → Value} {D : AD} (hD : Dk w p gl gm V D) {hs : List Int} (hl : hs.length = 32) (fi le : Int) (h1 : 1 ≤ heap) (h2 : heap < D.la.length) (hz : secN le ≠ 0) (hf : fi < (heap : Int) ∨ (D.la.length : Int) ≤ fi) : Calls Tryd.prog 20 #[.pointer (some ⟨p, 0, none⟩), .int .i64 (heap : Int), .agg (refV hs fi le).toArray] w fun e w' => e = .returned (.tuple #[.pointer none, .int .i64 61]) ∧ Below w.heap.size w w' := by
 have hb0 := (Below.refl w.heap.size w).alloc (Nat.le_refl _) (.cells (refV hs fi le).toArray 34)
 have hA0 := Arr.new w (refV hs fi le) 34
 have hc33 := arr_cell hA0 (refV_33 hl fi le)
 have HA := hide hA0
 have HB := hide hb0
 have HDS := hide (sectors_calls (hD.below hb0).cells.1)
 have HSN := hide (fun W => chSectors_calls le W)
 have hsd := hD.ok.hi
 have HNW := hide (spNew_calls (w := w.alloc (.cells (refV hs fi le).toArray 34)) heap D.la.length h2 hsd)
 have hno : hasB heap D.la.length (newW (D.la.length - heap)) fi = false := by
  unfold hasB
  rw [decide_eq_false (by omega)]
  rfl
 have HNO := hide hno
 have HHL := hide hl
 generalize D.la.length = sd at *
 generalize hn0 : newW (sd - heap) = nw at *
 generalize secN le = sn at *
 have h1I : ¬ (heap : Int) < 1 := by omega
 have h2I : ¬ (sd : Int) < (heap : Int) := by omega
 have h2N : ¬ sd < heap := by omega
 clear hb0 hD h1 h2 hl hA0 hsd hf hno hn0
 go_enter Tryd.func20, Tryd.ntmps20
 go_wp2_with fail
 refine (unhide HDS).mono ?_
 rintro e w1 ⟨rfl, hw1⟩
 obtain rfl := hw1.symm
 go_wp2_with fail
 refine (unhide HSN _).mono ?_
 rintro e w2 ⟨rfl, hw2⟩
 obtain rfl := hw2.symm
 clear HSN
 go_wp2_with fail
 refine (unhide HDS).mono ?_
 rintro e w1 ⟨rfl, hw1⟩
 obtain rfl := hw1.symm
 clear HDS hc33
 go_wp2_with fail
 refine (unhide HNW).mono ?_
 rintro e w3 ⟨g, gw, rfl, hs3, hg3, hb3⟩
 have hc32 := arr_cell (HA.out.below hb3) (refV_32 HHL.out fi le)
 have HCL := hide (claim_calls hs3 fi)
 rw [HNO.out] at HCL
 have HB3 := hide (below_then HB.out hb3)
 have hgw3 : (w.alloc (.cells (refV hs fi le).toArray 34)).heap.size ≤ gw := hs3.cellsG.2.1
 have HGW := hide hgw3
 clear HNW hs3 hg3 hb3 hgw3
 go_wp2_with fail
 refine (unhide HCL).mono ?_
 rintro e w4 ⟨rfl, _, hg4⟩
 have HB4 : Hid (Below w.heap.size w w4) := hide (HB3.out.grown hg4 (by have := HB3.out.size; omega) (fun b hb => by have := HGW.out; have := HB.out.size; injection hb with hb; omega))
 clear HCL hg4 hc32
 go_wp2
 go_ret2
 exact ⟨rfl, HB4.out⟩
set_option maxRecDepth 100000 in
set_option maxHeartbeats 300000 in
theorem newReader_good {w : World} {p gl gm heap fi : Nat} {V : Nat → Value} {D : AD} (hD : Dk w p gl gm V D) {hs : List Int} (hl : hs.length = 32) (hhb : ∀ x ∈ hs, 0 ≤ x ∧ x ≤ 255) (le : Int) (h1 : 1 ≤ heap) (h2 : heap < D.la.length) (hz : secN le ≠ 0) (hf : heap ≤ fi ∧ fi < D.la.length) : Calls Tryd.prog 20 #[.pointer (some ⟨p, 0, none⟩), .int .i64 (heap : Int), .agg (refV hs (fi : Int) le).toArray] w fun e w' => ∃ pr up ug, e = .returned (.tuple #[.pointer (some ⟨pr, 0, none⟩), .int .i64 0]) ∧ Rd w' w.heap.size p pr up ug hs (fi : Int) le heap D.la.length (.slice none 0 0) (.slice none 0 0) ⟨[], claimW heap D.la.length (newW (D.la.length - heap)) (fi : Int), fi, [], 0⟩ ∧ w.heap.size ≤ pr ∧ w.heap.size ≤ up ∧ w.heap.size ≤ ug ∧ Below w.heap.size w w' := by
 have hb0 := (Below.refl w.heap.size w).alloc (Nat.le_refl _) (.cells (refV hs (fi : Int) le).toArray 34)
 have hA0 := Arr.new w (refV hs (fi : Int) le) 34
 have hc33 := arr_cell hA0 (refV_33 hl (fi : Int) le)
 have HA := hide hA0
 have HB := hide hb0
 have HDS := hide (sectors_calls (hD.below hb0).cells.1)
 have HSN := hide (fun W => chSectors_calls le W)
 have hsd := hD.ok.hi
 have HNW := hide (spNew_calls (w := w.alloc (.cells (refV hs (fi : Int) le).toArray 34)) heap D.la.length h2 hsd)
 have hno : hasB heap D.la.length (newW (D.la.length - heap)) (fi : Int) = true := by
  unfold hasB
  rw [decide_eq_true (by omega), newW_bit (by omega)]
  simp
  omega
 have HNO := hide hno
 have HHL := hide hl
 have HHB := hide hhb
 have hiR := infoRef hl (fi : Int) le
 have hund := Tryd.underlying34
 have HBS := hide (fun W => buildStand2_run hl p (fi : Int) le W)
 generalize D.la.length = sd at *
 generalize hn0 : newW (sd - heap) = nw at *
 generalize secN le = sn at *
 have h1I : ¬ (heap : Int) < 1 := by omega
 have h2I : ¬ (sd : Int) < (heap : Int) := by omega
 have h2N : ¬ sd < heap := by omega
 clear hb0 hD h1 h2 hl hA0 hsd hf hno hn0 hhb
 go_enter Tryd.func20, Tryd.ntmps20
 go_wp2_with fail
 refine (unhide HDS).mono ?_
 rintro e w1 ⟨rfl, hw1⟩
 obtain rfl := hw1.symm
 go_wp2_with fail
 refine (unhide HSN _).mono ?_
 rintro e w2 ⟨rfl, hw2⟩
 obtain rfl := hw2.symm
 clear HSN
 go_wp2_with fail
 refine (unhide HDS).mono ?_
 rintro e w1 ⟨rfl, hw1⟩
 obtain rfl := hw1.symm
 clear HDS hc33
 go_wp2_with fail
 refine (unhide HNW).mono ?_
 rintro e w3 ⟨g, gw, rfl, hs3, hg3, hb3⟩
 have hc32 := arr_cell (HA.out.below hb3) (refV_32 HHL.out (fi : Int) le)
 have HCL := hide (claim_calls hs3 (fi : Int))
 rw [HNO.out] at HCL
 have HB3 := hide (below_then HB.out hb3)
 have HA3 := hide (HA.out.below hb3)
 have HGG : Hid (w.heap.size ≤ g ∧ w.heap.size ≤ gw) := hide ⟨by have := HB.out.size; omega, by have := HB.out.size; have := hs3.cellsG.2.1; omega⟩
 have hgwn : w.heap.size ≠ gw := by have := hs3.cellsG.2.1; simp at this; omega
 have HGWN := hide hgwn
 have hgw9 : (w.alloc (.cells (refV hs (fi : Int) le).toArray 34)).heap.size ≤ gw := hs3.cellsG.2.1
 have HGW := hide hgw9
 clear HNW hs3 hg3 hb3 hgwn hgw9
 go_wp2_with fail
 refine (unhide HCL).mono ?_
 rintro e w4 ⟨rfl, hs4, hg4⟩
 have HB4 : Hid (Below w.heap.size w w4) := hide (HB3.out.grown hg4 (by have := HB3.out.size; omega) (fun b hb => by have := HGW.out; have := HB.out.size; injection hb with hb; omega))
 have hA4 : Arr w4 w.heap.size 34 (refV hs (fi : Int) le) := HA3.out.up (F := fun b => b = gw) (Up.of_grown hg4 (fun b hb => (Option.some.inj hb).symm)) HGWN.out
 have hrng : w4.rangeAt w.heap.size 0 (refV hs (fi : Int) le) := arr_range (ds := []) (by rw [List.append_nil]; exact hA4)
 have hc32' := arr_cell hA4 (refV_32 HHL.out (fi : Int) le)
 have HBR := hide (fun W => buildReader_run HHL.out p g (fi : Int) le (fi : Int) W)
 have HBX := hide (fun W => boxReader_run HHL.out p g (fi : Int) le (fi : Int) W)
 have HS4 := hide hs4
 clear HCL hg4 hc32 hA4 hs4
 have HFIN : Hid (∃ pr up ug, Value.pointer (some ⟨w4.heap.size, 0, none⟩) = .pointer (some ⟨pr, 0, none⟩) ∧ Rd (w4.alloc (.cells (readerV p hs (fi : Int) le (.slice none 0 0) 0 g (fi : Int) (.slice none 0 0) 0).toArray 68)) w.heap.size p pr up ug hs (fi : Int) le heap sd (.slice none 0 0) (.slice none 0 0) ⟨[], claimW heap sd nw (fi : Int), fi, [], 0⟩ ∧ w.heap.size ≤ pr ∧ w.heap.size ≤ up ∧ w.heap.size ≤ ug ∧ Below w.heap.size w (w4.alloc (.cells (readerV p hs (fi : Int) le (.slice none 0 0) 0 g (fi : Int) (.slice none 0 0) 0).toArray 68))) := hide (by
  have hb9 : Below w4.heap.size w4 (w4.alloc (.cells (readerV p hs (fi : Int) le (.slice none 0 0) 0 g (fi : Int) (.slice none 0 0) 0).toArray 68)) := (Below.refl _ _).alloc (Nat.le_refl _) _
  have hsp := (HS4.out.below hb9)
  obtain ⟨c, k1, k2⟩ := hsp.blk
  refine ⟨w4.heap.size, g, gw, rfl, ⟨Arr.new w4 _ _, World.ownsRow_nil _ _ _ _, ⟨⟨c, k1, Row.mono k2 HB.out.size⟩, hsp.rng, hsp.len, hsp.wd, hsp.top⟩, Own8.nil _ _, HHL.out, HHB.out⟩, HB4.out.size, HGG.out.1, HGG.out.2, below_then HB4.out hb9⟩)
 clear HS4 HB3 HA3 HGG HGW HGWN HB4 HNO HHB HHL HA HB
 go_wp2_with (first
  | (refine wpList_load_mid rfl 34 (.tmp 5) rfl w.heap.size 0 rfl (refV hs (fi : Int) le) _ hrng hund rfl hiR ?_)
  | (refine wpList_build2 rfl 66 (.tmp 42) (.tmp 43) rfl (vx := .pointer (some ⟨p, 0, none⟩)) (vy := .agg (refV hs (fi : Int) le).toArray) rfl rfl (unhide HBS _) ?_)
  | (refine wpList_build3 rfl 68 (.tmp 44) (.tmp 45) (.tmp 47) rfl (vx := .agg (standV p hs (fi : Int) le (.slice none 0 0) 0).toArray) (vy := .pointer (some ⟨g, 0, none⟩)) (vz := .int .i64 (fi : Int)) rfl rfl rfl (unhide HBR _) ?_)
  | (refine wpList_box rfl 68 (.tmp 48) rfl (v := .agg (readerV p hs (fi : Int) le (.slice none 0 0) 0 g (fi : Int) (.slice none 0 0) 0).toArray) rfl (unhide HBX _) ?_))
 go_ret2
 obtain ⟨pr, up, ug, e1, e2, e3, e4, e5, e6⟩ := HFIN.out
 refine ⟨pr, up, ug, ?_, e2, e3, e4, e5, e6⟩
 rw [← e1]
 rfl
set_option maxRecDepth 100000 in
theorem rbytes_end {w : World} {B p pr up ug : Nat} {hs : List Int} {fi le : Int} {fr to_ : Nat} {nv bv : Value} {S : RS} (h : Rd w B p pr up ug hs fi le fr to_ nv bv S) (he : (S.ns.length : Int) = secN le) (hl : S.by_.length ≤ 2000000) :
 Calls Tryd.prog 25 #[.pointer (some ⟨pr, 0, none⟩)] w fun e w' => ∃ ra rn rc, e = .returned (.slice ra rn rc) ∧ Own8 w' w.heap.size (.slice ra rn rc) S.by_ ∧ Below w.heap.size w w' := by
 obtain ⟨_, _, c34, _, c36, _, _, c39, _⟩ := h.cells
 have HB1 := hide (behind_calls c36 c34)
 have hq : ((S.ns.length : Int) == secN le) = true := by simp [he]
 rw [hq] at HB1
 obtain ⟨ba, bn, bc, hbv⟩ := h.own.isB.shape
 have hb1 : Below w.heap.size w w.drew := (Below.refl _ _).drew
 have h2 := h.own.isB.below hb1
 rw [hbv] at h2 c39
 have HCL := hide (cloneB_any h2 (by omega))
 have c39' := bkeptC hb1 c39
 clear c34 c36 c39 hq hbv hb1 h2 h he hl
 go_enter Tryd.func25, Tryd.ntmps25
 go_wp2_with fail
 refine (unhide HB1).mono ?_
 rintro e w1 ⟨rfl, hw1⟩
 rw [← hw1] at HCL c39'
 have hb2 : Below w.heap.size w w1 := by rw [hw1]; exact (Below.refl _ _).drew
 clear hw1 HB1
 go_wp2_with fail
 refine (unhide HCL).mono ?_
 rintro e w2 ⟨ra, rn, rc, rfl, ho, hb3⟩
 have HE := hide (And.intro (own8_mono ho hb2.size) (below_then hb2 hb3))
 clear ho hb3 HCL hb2
 go_wp2
 go_ret
 exact ⟨ra, rn, rc, rfl, HE.out.1, HE.out.2⟩
set_option maxRecDepth 100000 in
theorem rbytes_mid {w : World} {B p pr up ug : Nat} {hs : List Int} {fi le : Int} {fr to_ : Nat} {nv bv : Value} {S : RS} (h : Rd w B p pr up ug hs fi le fr to_ nv bv S) (he : (S.ns.length : Int) ≠ secN le) :
 Calls Tryd.prog 25 #[.pointer (some ⟨pr, 0, none⟩)] w fun e w' => e = .returned (.slice none 0 0) ∧ Below w.heap.size w w' := by
 obtain ⟨_, _, c34, _, c36, _, _, c39, _⟩ := h.cells
 have HB1 := hide (behind_calls c36 c34)
 have hq : ((S.ns.length : Int) == secN le) = false := by simp [he]
 rw [hq] at HB1
 clear c34 c36 c39 hq h he
 go_enter Tryd.func25, Tryd.ntmps25
 go_wp2_with fail
 refine (unhide HB1).mono ?_
 rintro e w1 ⟨rfl, hw1⟩
 have hb2 : Below w.heap.size w w1 := by rw [hw1]; exact (Below.refl _ _).drew
 clear hw1 HB1
 go_wp2
 go_ret
 exact ⟨rfl, hb2⟩
theorem rbroken_calls {w : World} {B p pr up ug : Nat} {hs : List Int} {fi le : Int} {fr to_ : Nat} {nv bv : Value} {S : RS} (h : Rd w B p pr up ug hs fi le fr to_ nv bv S) :
 Calls Tryd.prog 26 #[.pointer (some ⟨pr, 0, none⟩)] w fun e w' => e = .returned (.int .i64 S.br) ∧ w' = w := by
 obtain ⟨_, _, _, _, _, _, _, _, c40⟩ := h.cells
 clear h
 go_enter Tryd.func26, Tryd.ntmps26
 go_wp2
 go_ret
 exact ⟨rfl, rfl⟩
end Go.Proofs.YtlofoklfggmbiaaDoor

namespace Go.Proofs.YtlofoklfggmbiaaDoor
open Go.RowKit Go.Maps

theorem readS_broken {b hs : List Int} {fi le : Int} {fr to_ : Nat} {S : RS} (h : (readS b hs fi le fr to_ S).br ≠ 0) : (readS b hs fi le fr to_ S).by_ = [] := by
 unfold readS at h ⊢
 split
 · rename_i hf
   rw [if_pos hf] at h
   split
   · rfl
   · rename_i h2
     rw [if_neg h2] at h
     exact absurd rfl h
 · rfl
theorem goS_broken {N : Nat → List Int} {hs : List Int} {fi le : Int} {fr to_ : Nat} : ∀ (n : Nat) (S : RS), (S.br ≠ 0 → S.by_ = []) → (goS N hs fi le fr to_ n S).br ≠ 0 → (goS N hs fi le fr to_ n S).by_ = []
 | 0, _, h => h
 | n + 1, S, _ => by
   rw [goS]
   split
   · exact readS_broken
   · exact goS_broken n _ readS_broken
theorem goS_by {N : Nat → List Int} {hs : List Int} {fi le : Int} {fr to_ : Nat} : ∀ (n : Nat) (S : RS), (S.ns.length : Int) + (n : Int) ≤ secN le → S.by_.length ≤ 480 * S.ns.length → (goS N hs fi le fr to_ n S).by_.length ≤ 480 * (S.ns.length + n)
 | 0, _, _, h => by rw [goS]; omega
 | n + 1, S, hn, h => by
   have h2 := readS_by (N S.nx) hs fi le fr to_ S
   have h3 := cnt_ok (le := le) (place := (S.ns.length : Int)) (by omega) (by omega)
   have h4 : (readS (N S.nx) hs fi le fr to_ S).ns.length = S.ns.length + 1 := by rw [readS_ns]; simp
   rw [goS]
   split
   · omega
   · have := goS_by n (N := N) (hs := hs) (fi := fi) (le := le) (fr := fr) (to_ := to_) (readS (N S.nx) hs fi le fr to_ S) (by omega) (by omega)
     omega
theorem rbytes_any {w : World} {B p pr up ug : Nat} {hs : List Int} {fi le : Int} {fr to_ : Nat} {nv bv : Value} {S : RS} (h : Rd w B p pr up ug hs fi le fr to_ nv bv S) (he : outB le S = true) (hb : S.br ≠ 0 → S.by_ = []) (hl : S.by_.length ≤ 2000000) :
 Calls Tryd.prog 25 #[.pointer (some ⟨pr, 0, none⟩)] w fun e w' => ∃ ra rn rc, e = .returned (.slice ra rn rc) ∧ Own8 w' w.heap.size (.slice ra rn rc) S.by_ ∧ Below w.heap.size w w' := by
 by_cases hen : (S.ns.length : Int) = secN le
 · exact rbytes_end h hen hl
 · have hz : S.br ≠ 0 := fun hz => by
    unfold outB at he
    rw [if_pos hz, decide_eq_false hen] at he
    cases he
   refine (rbytes_mid h hen).mono ?_
   rintro e w' ⟨rfl, hb2⟩
   refine ⟨none, 0, 0, rfl, ?_, hb2⟩
   rw [hb hz]
   exact Own8.nil _ _
/-- Where a reading begins. -/
def begS (heap sd fi : Nat) : RS := ⟨[], claimW heap sd (newW (sd - heap)) (fi : Int), fi, [], 0⟩
set_option maxRecDepth 100000 in
set_option maxHeartbeats 4000000 in
theorem get_good {w : World} {p gl gm heap fi k : Nat} {V : Nat → Value} {D : AD} (hD : Dk w p gl gm V D) (hT : TT w) (hFt : ∀ x, Ft p gl gm V x → GB ≤ x) {hs : List Int} (hl : hs.length = 32) (hhb : ∀ x ∈ hs, 0 ≤ x ∧ x ≤ 255) (le : Int) (h1 : 1 ≤ heap) (h2 : heap < D.la.length) (hz : secN le = (k : Int)) (hk : 1 ≤ k) (hf : heap ≤ fi ∧ fi < D.la.length) (hr0 : 0 ≤ D.rd) (hr1 : D.rd ≤ 1152921504606840000) :
 Calls Tryd.prog 17 #[.pointer (some ⟨p, 0, none⟩), .int .i64 (heap : Int), .agg (refV hs (fi : Int) le).toArray] w fun e w' => ∃ ra rn rc n, e = .returned (.tuple #[.slice ra rn rc, .int .i64 (goS D.now hs (fi : Int) le heap D.la.length k (begS heap D.la.length fi)).br, .int .i64 (outE (goS D.now hs (fi : Int) le heap D.la.length k (begS heap D.la.length fi)))]) ∧ Own8 w' w.heap.size (.slice ra rn rc) (goS D.now hs (fi : Int) le heap D.la.length k (begS heap D.la.length fi)).by_ ∧ Dk w' p gl gm V (D.reads n) ∧ (goS D.now hs (fi : Int) le heap D.la.length k (begS heap D.la.length fi)).ns.length = n ∧ Up (fun b => b = p) w w' := by
 have hb0 := (Below.refl w.heap.size w).alloc (Nat.le_refl _) (.cells (refV hs (fi : Int) le).toArray 34)
 have hA0 := Arr.new w (refV hs (fi : Int) le) 34
 have hrng : (w.alloc (.cells (refV hs (fi : Int) le).toArray 34)).rangeAt w.heap.size 0 (refV hs (fi : Int) le) := arr_range (ds := []) (by rw [List.append_nil]; exact hA0)
 have hiR := infoRef hl (fi : Int) le
 have hund := Tryd.underlying34
 have HNR := hide (newReader_good (hD.below hb0) hl hhb le h1 h2 (by omega) hf)
 obtain ⟨G, hG⟩ : ∃ G, G = goS D.now hs (fi : Int) le heap D.la.length k (begS heap D.la.length fi) := ⟨_, rfl⟩
 have hGb : G.br ≠ 0 → G.by_ = [] := by rw [hG]; exact goS_broken k _ (fun h => absurd rfl h)
 have hGl : G.by_.length ≤ 2000000 := by
  have h9 := goS_by (N := D.now) (hs := hs) (fi := (fi : Int)) (le := le) (fr := heap) (to_ := D.la.length) k (begS heap D.la.length fi) (by rw [hz]; simp [begS]) (by simp [begS])
  have := secN_hi le
  rw [← hG] at h9
  simp only [begS, List.length_nil] at h9
  omega
 rw [← hG]
 have HFN : Hid (∀ W pr up ug, Rd W (w.alloc (.cells (refV hs (fi : Int) le).toArray 34)).heap.size p pr up ug hs (fi : Int) le heap D.la.length (.slice none 0 0) (.slice none 0 0) (begS heap D.la.length fi) → w.heap.size ≤ pr → w.heap.size ≤ up → w.heap.size ≤ ug → Below (w.alloc (.cells (refV hs (fi : Int) le).toArray 34)).heap.size (w.alloc (.cells (refV hs (fi : Int) le).toArray 34)) W → Calls Tryd.prog 43 #[.iface 56 (.pointer (some ⟨pr, 0, none⟩))] W fun e w' => e = .returned (.int .i64 (outE G)) ∧ ∃ n nv' bv', Rd w' (w.alloc (.cells (refV hs (fi : Int) le).toArray 34)).heap.size p pr up ug hs (fi : Int) le heap D.la.length nv' bv' G ∧ Dk w' p gl gm V (D.reads n) ∧ Up (fun b => b = p) w w' ∧ G.ns.length = n ∧ outB le G = true) := hide (fun W pr up ug hR a1 a2 a3 hb => by
  have hbw : Below w.heap.size w W := below_then hb0 hb
  have hDW := hD.below hbw
  have hsz := hbw.size
  have hTs := hT.size
  have hFr : ∀ x, Fr pr up ug (.slice none 0 0) (.slice none 0 0) x → w.heap.size ≤ x := fun x hx => by
   rcases hx with rfl | rfl | rfl | hx | hx
   · exact a1
   · exact a2
   · exact a3
   · simp [Value.ownBlock] at hx
   · simp [Value.ownBlock] at hx
  have hE : Env W p gl gm V pr up ug (.slice none 0 0) (.slice none 0 0) := by
   refine ⟨fun x hx => hDW.lt hx, fun x hx => hR.lt hx, fun x hx hf => ?_, hFt, fun x hx => ?_, by omega⟩
   · have := hFr x hx
     have := hD.lt hf
     omega
   · have := hFr x hx
     omega
  refine (finish_r hDW hR hE (hT.below hbw) hb.size hr0 hr1 ⟨hf.2, hf.1, h1, rfl, by rw [hz]; simp [begS]; omega, by simp [begS], rfl⟩ (k := k) (by rw [hz]; simp [begS])).mono ?_
  rintro e w' ⟨rfl, n, nv', bv', q1, q2, q3⟩
  rw [← hG] at q1 q2 q3 ⊢
  refine ⟨rfl, n, nv', bv', q1.rd, q1.dk, ?_, by simpa [begS] using q2, q3⟩
  refine ((Up.of_below hbw).trans q1.up (fun x hx => ?_))
  rcases hx with hx | hx
  · exact Or.inl hx
  · exact Or.inr (hFr x hx))
 have HBY : Hid (∀ W pr up ug nv' bv', Rd W (w.alloc (.cells (refV hs (fi : Int) le).toArray 34)).heap.size p pr up ug hs (fi : Int) le heap D.la.length nv' bv' G → outB le G = true → Calls Tryd.prog 25 #[.pointer (some ⟨pr, 0, none⟩)] W fun e w' => ∃ ra rn rc, e = .returned (.slice ra rn rc) ∧ Own8 w' W.heap.size (.slice ra rn rc) G.by_ ∧ Below W.heap.size W w') := hide (fun W pr up ug nv' bv' h he => rbytes_any h he hGb hGl)
 have HBR : Hid (∀ W pr up ug nv' bv', Rd W (w.alloc (.cells (refV hs (fi : Int) le).toArray 34)).heap.size p pr up ug hs (fi : Int) le heap D.la.length nv' bv' G → Calls Tryd.prog 26 #[.pointer (some ⟨pr, 0, none⟩)] W fun e w' => e = .returned (.int .i64 G.br) ∧ w' = W) := hide (fun W pr up ug nv' bv' h => rbroken_calls h)
 generalize outE G = oe at *
 clear hD hT hFt hhb h1 h2 hz hk hf hr0 hr1 hA0 hG hGb hGl hb0 hl
 go_enter Tryd.func17, Tryd.ntmps17
 go_wp2_with (first
  | (refine wpList_load_mid rfl 34 (.tmp 5) rfl w.heap.size 0 rfl (refV hs (fi : Int) le) _ hrng hund rfl hiR ?_))
 refine (unhide HNR).mono ?_
 rintro e w2 ⟨pr, up, ug, rfl, hR2, a1, a2, a3, hb2⟩
 have ha : w.heap.size ≤ (w.alloc (.cells (refV hs (fi : Int) le).toArray 34)).heap.size := by simp
 have HF2 := hide (unhide HFN w2 pr up ug hR2 (Nat.le_trans ha a1) (Nat.le_trans ha a2) (Nat.le_trans ha a3) hb2)
 clear HNR HFN hR2 a1 a2 a3 hb2 ha hrng
 go_wp2_with fail
 refine (unhide HF2).mono ?_
 rintro e w3 ⟨rfl, n, nv', bv', hR3, hD3, hU3, hn3, he3⟩
 have HB3 := hide (unhide HBY w3 pr up ug nv' bv' hR3 he3)
 have HR3 := hide hR3
 have HD3 := hide hD3
 have HU3 := hide hU3
 have HN3 := hide hn3
 clear HF2 HBY hR3 hD3 hU3 hn3 he3
 go_wp2_with fail
 refine (unhide HB3).mono ?_
 rintro e w4 ⟨ra, rn, rc, rfl, ho4, hb4⟩
 have HBR4 := hide (unhide HBR w4 pr up ug nv' bv' (HR3.out.below hb4))
 have HO4 := hide ho4
 have HB4 := hide hb4
 clear HB3 HBR ho4 hb4
 go_wp2_with fail
 refine (unhide HBR4).mono ?_
 rintro e w5 ⟨rfl, hw5⟩
 obtain rfl := hw5.symm
 clear HBR4
 go_wp2
 go_ret3
 refine ⟨ra, rn, rc, n, rfl, own8_mono HO4.out HU3.out.size, HD3.out.below HB4.out, HN3.out, HU3.out.then_below HB4.out⟩
end Go.Proofs.YtlofoklfggmbiaaDoor

namespace Go.Proofs.YtlofoklfggmbiaaDoor
open Go.RowKit Go.Maps

theorem claimW_len (fr to_ : Nat) (ws : List Nat) (n : Int) : (claimW fr to_ ws n).length = ws.length := by
 unfold claimW
 split
 · exact flip_len _ _
 · rfl
theorem has_claim {fr to_ : Nat} {ws : List Nat} (hl : ws.length = (to_ - fr + 63) / 64) (n x : Int) (hx : x ≠ n) : hasB fr to_ (claimW fr to_ ws n) x = hasB fr to_ ws x := by
 by_cases hn : hasB fr to_ ws n = true
 · have hn' := hn
   unfold claimW
   rw [if_pos hn]
   unfold hasB at hn'
   simp only [Bool.and_eq_true, decide_eq_true_eq] at hn'
   unfold hasB
   by_cases hr : (fr : Int) ≤ x ∧ x < (to_ : Int)
   · rw [flip_bit (by omega), if_neg (by omega)]
   · rw [decide_eq_false hr]
     rfl
 · unfold claimW
   rw [if_neg hn]
/-- Where a reading of what was put stands behind j pieces. -/
structure Got (heap sd : Nat) (bs : List Int) (ks : List Nat) (j : Nat) (S : RS) : Prop where
 ns : S.ns = ks.take j
 nx : S.nx = ks.getD j 0
 by_ : S.by_ = bs.take (480 * j)
 br : S.br = 0
 wl : S.ws.length = (sd - heap + 63) / 64
 has : ∀ y, heap ≤ y → y < sd → y ∉ ks.take (j + 1) → hasB heap sd S.ws (y : Int) = true
theorem take_succD {ks : List Nat} {j : Nat} (h : j < ks.length) : ks.take (j + 1) = ks.take j ++ [ks.getD j 0] := by
 rw [List.take_add_one, List.getElem?_eq_getElem h, List.getD_eq_getElem?_getD, List.getElem?_eq_getElem h]
 rfl
theorem got_begin {heap sd : Nat} {bs : List Int} {ks : List Nat} (hk : 0 < ks.length) (hh : heap < sd) : Got heap sd bs ks 0 (begS heap sd (ks.getD 0 0)) := by
 refine ⟨rfl, rfl, rfl, rfl, by rw [begS, claimW_len, newW_len (by omega)], fun y h1 h2 h3 => ?_⟩
 have hy : (y : Int) ≠ ((ks.getD 0 0 : Nat) : Int) := fun e => h3 (by rw [take_succD hk]; exact List.mem_append_right _ (List.mem_singleton.2 (by omega)))
 show hasB heap sd (claimW heap sd (newW (sd - heap)) _) _ = true
 rw [has_claim (newW_len (by omega)) _ _ hy]
 unfold hasB
 rw [decide_eq_true (by omega), newW_bit (by omega)]
 simp
 omega
theorem part_sect {bs : List Int} {ks : List Nat} (hb : bs.length ≤ 1048576) (hk : (ks.length : Int) = secN (bs.length : Int)) {j : Nat} (hj : j < ks.length) : partOf (sectK bs ks j) (bs.length : Int) j = pieceL bs j := by
 have hc := pieceL_cnt bs hb (j := j) (by omega)
 unfold partOf
 rw [← hc, Int.toNat_natCast]
 exact secL_piece (shaOf_len bs) _ _ _
theorem got_step {heap sd : Nat} {bs : List Int} {ks : List Nat} {N : Nat → List Int} (hb : bs.length ≤ 1048576) (hk : (ks.length : Int) = secN (bs.length : Int)) (hks : ∀ x ∈ ks, 1 ≤ x ∧ x < 65536 ∧ heap ≤ x ∧ x < sd) (hn : ks.Nodup) (hN : ∀ t, t < ks.length → N (ks.getD t 0) = sectK bs ks t) {fi : Int} {j : Nat} {S : RS} (hj : j < ks.length) (h : Got heap sd bs ks j S) :
 Got heap sd bs ks (j + 1) (readS (N S.nx) (shaOf bs) fi (bs.length : Int) heap sd S) := by
 have hns : S.ns.length = j := by rw [h.ns, List.length_take]; omega
 have hso := sectK_sound hb hk (fun x hx => ⟨(hks x hx).1, (hks x hx).2.1⟩) hj
 have hnx0 : 0 ≤ nxK ks j ∧ nxK ks j < 4294967296 := by
  unfold nxK
  by_cases e : j + 1 < ks.length
  · have := hks _ (getD_mem e); omega
  · rw [List.getD_eq_getElem?_getD, List.getElem?_eq_none (by omega)]; simp
 have hle : leN ((sectK bs ks j).take 4) = nxK ks j := by
  unfold sectK
  rw [secL_next, leN_fB4 hnx0.1 hnx0.2]
 have hnot : j + 1 < ks.length → ks.getD (j + 1) 0 ∉ ks.take (j + 1) := fun e hm => by
  obtain ⟨i, hi, he⟩ := List.mem_iff_getElem.1 hm
  rw [List.length_take] at hi
  have h9 : ks.getD i 0 = ks.getD (j + 1) 0 := by
   rw [← he, List.getD_eq_getElem?_getD, List.getElem?_eq_getElem (by omega), List.getElem_take]
   rfl
  have := getD_inj hn (by omega) e h9
  omega
 have hfits : fits (N S.nx) (shaOf bs) (bs.length : Int) heap sd S := by
  rw [h.nx, hN j hj]
  refine ⟨by rw [hns, hle]; exact hso, ?_⟩
  rw [hle]
  by_cases e : j + 1 < ks.length
  · refine Or.inr ?_
    have := hks _ (getD_mem e)
    exact h.has _ (by omega) (by omega) (hnot e)
  · exact Or.inl (by rw [hns]; omega)
 have hby : S.by_ ++ partOf (N S.nx) (bs.length : Int) S.ns.length = bs.take (480 * (j + 1)) := by
  rw [h.nx, hN j hj, hns, part_sect hb hk hj, h.by_, take_pieces]
 have hsame : (S.ns.length : Int) + 1 = secN (bs.length : Int) → shaOf (S.by_ ++ partOf (N S.nx) (bs.length : Int) S.ns.length) = shaOf bs := fun h9 => by
  rw [hby, List.take_of_length_le]
  rw [hns, ← hk] at h9
  have h10 := hk
  unfold secN at h10
  rw [if_neg (by omega), if_neg (by omega)] at h10
  omega
 unfold readS
 rw [if_pos hfits, if_neg (fun hc => hc.2 (hsame hc.1))]
 · unfold goneOn
   refine ⟨by rw [h.ns, h.nx, take_succD hj], ?_, hby, rfl, ?_, fun y h1 h2 h3 => ?_⟩
   · show (leN ((N S.nx).take 4)).toNat = _
     rw [h.nx, hN j hj, hle]
     unfold nxK
     exact Int.toNat_natCast _
   · show (if _ then _ else _ : List Nat).length = _
     split
     · exact h.wl
     · rw [claimW_len]; exact h.wl
   · show hasB heap sd (if _ then _ else _) _ = true
     by_cases e : j + 1 < ks.length
     · rw [if_neg (by rw [hns]; omega), h.nx, hN j hj, hle]
       rw [take_succD e] at h3
       have hne : (y : Int) ≠ nxK ks j := fun e2 => h3 (List.mem_append_right _ (List.mem_singleton.2 (by unfold nxK at e2; omega)))
       rw [has_claim h.wl _ _ hne]
       exact h.has y h1 h2 (fun hm => h3 (List.mem_append_left _ hm))
     · rw [if_pos (by rw [hns]; omega)]
       refine h.has y h1 h2 (fun hm => h3 ?_)
       rw [List.take_of_length_le (by omega)]
       exact List.mem_of_mem_take hm
theorem got_all {heap sd : Nat} {bs : List Int} {ks : List Nat} {N : Nat → List Int} (hb : bs.length ≤ 1048576) (hk : (ks.length : Int) = secN (bs.length : Int)) (hks : ∀ x ∈ ks, 1 ≤ x ∧ x < 65536 ∧ heap ≤ x ∧ x < sd) (hn : ks.Nodup) (hN : ∀ t, t < ks.length → N (ks.getD t 0) = sectK bs ks t) {fi : Int} : ∀ (n j : Nat) (S : RS), j + (n + 1) = ks.length → Got heap sd bs ks j S →
 Got heap sd bs ks ks.length (goS N (shaOf bs) fi (bs.length : Int) heap sd (n + 1) S)
 | 0, j, S, hj, h => by
   have h2 := got_step hb hk hks hn hN (fi := fi) (by omega) h
   have h3 : ((readS (N S.nx) (shaOf bs) fi (bs.length : Int) heap sd S).ns.length : Int) = secN (bs.length : Int) := by rw [h2.ns, List.length_take, ← hk]; omega
   rw [goS, if_pos (Or.inr h3), ← hj]
   exact h2
 | n + 1, j, S, hj, h => by
   have h2 := got_step hb hk hks hn hN (fi := fi) (by omega) h
   have h3 : ((readS (N S.nx) (shaOf bs) fi (bs.length : Int) heap sd S).ns.length : Int) ≠ secN (bs.length : Int) := by rw [h2.ns, List.length_take, ← hk]; omega
   rw [goS, if_neg (fun hc => hc.elim (fun h4 => h4 h2.br) h3)]
   exact got_all hb hk hks hn hN n (j + 1) _ (by omega) h2
/-- What was put is got. -/
theorem put_got {heap sd : Nat} {bs : List Int} {ks : List Nat} {D : AD} (hb : bs.length ≤ 1048576) (hk : (ks.length : Int) = secN (bs.length : Int)) (hk0 : 0 < ks.length) (hks : ∀ x ∈ ks, 1 ≤ x ∧ x < 65536 ∧ heap ≤ x ∧ x < sd) (hn : ks.Nodup) (hh : heap < sd) (fi : Int) {N : Nat → List Int} (hN : ∀ t, t < ks.length → N (ks.getD t 0) = (putAll D bs ks ks.length).now (ks.getD t 0)) : (goS N (shaOf bs) fi (bs.length : Int) heap sd ks.length (begS heap sd (ks.getD 0 0))).by_ = bs ∧ (goS N (shaOf bs) fi (bs.length : Int) heap sd ks.length (begS heap sd (ks.getD 0 0))).br = 0 ∧ (goS N (shaOf bs) fi (bs.length : Int) heap sd ks.length (begS heap sd (ks.getD 0 0))).ns = ks := by
 obtain ⟨m, hm⟩ : ∃ m, ks.length = m + 1 := ⟨ks.length - 1, by omega⟩
 have h := got_all (N := N) hb hk hks hn (fun t ht => by rw [hN t ht]; exact putAll_in D bs hn (Nat.le_refl _) ht) (fi := fi) m 0 _ (by omega) (got_begin (bs := bs) hk0 hh)
 rw [← hm] at h
 refine ⟨?_, h.br, by rw [h.ns, List.take_length]⟩
 rw [h.by_, List.take_of_length_le]
 have h10 := hk
 unfold secN at h10
 rw [if_neg (by omega), if_neg (by omega)] at h10
 omega
end Go.Proofs.YtlofoklfggmbiaaDoor
