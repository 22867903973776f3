/- ChainAgain: memory, call by call. ChainAgain: writers, Put and Get over what lies in memory. ChainAgain: two refs and two byte strings more. -/
import Derived.Test.YtlofoklfggmbiaaDoorUA
import Derived.Test.YtlofoklfggmbiaaDoorSK
import Derived.Test.YtlofoklfggmbiaaDoorRK
namespace Go.Proofs.YtlofoklfggmbiaaDoor
open Go.RowKit Go.Maps

/-- All that lies in memory. -/
structure Ag (w W : World) (S p gl gm : Nat) (V : Nat → Value) (D : AD) (m g gw : Nat) (ws : List Nat) (gk : Nat) (room : Value) (xs : List Int) (N : Nat) (rv bv : Value) (us : List Value) (C : List Chn) : Prop where
 dk : Dk W p gl gm V D
 sp : Sp W m g gw 3 400 ws
 ds : Dsk W S gk room xs N
 rr : OwnR W S rv (C.map refOf)
 bb : Row W S 26 bv us
 ul : us.length = C.length
 be : ∀ (i : Nat) (c : Chn), C[i]? = some c → ∃ (a : Option Addr) (n k : Nat), us[i]? = some (.slice a n k) ∧ IsB w (.slice a n k) c.1
 ft : ∀ b, Ft p gl gm V b → S ≤ b
 lo : S ≤ g ∧ S ≤ gw ∧ S ≤ gk
 gb : TT w
 bel : Below S w W
 sw : w.heap.size = S
section
variable {w W W' : World} {S p gl gm m g gw gk N : Nat} {V : Nat → Value} {D : AD} {ws : List Nat} {room rv bv : Value} {xs : List Int} {us : List Value} {C : List Chn}
theorem Ag.sz (h : Ag w W S p gl gm V D m g gw ws gk room xs N rv bv us C) : S ≤ W.heap.size := by have := h.bel.size; have := h.sw; omega
theorem Ag.tt (h : Ag w W S p gl gm V D m g gw ws gk room xs N rv bv us C) : TT W := h.gb.below (by rw [h.sw]; exact h.bel)
theorem Ag.gS (h : Ag w W S p gl gm V D m g gw ws gk room xs N rv bv us C) : GB ≤ S := by have := h.gb.size; have := h.sw; omega
theorem Ag.tyK (h : Ag w W S p gl gm V D m g gw ws gk room xs N rv bv us C) : Ty W gk 85 := ⟨_, _, h.ds.blk⟩
theorem Ag.tyO (h : Ag w W S p gl gm V D m g gw ws gk room xs N rv bv us C) {b : Nat} (hb : room.ownBlock = some b) : Ty W b 5 ∧ S ≤ b := by
 obtain ⟨h1, c, q, h2⟩ := row_blk h.ds.own.1 hb
 exact ⟨⟨c, q, h2⟩, h1⟩
theorem Ag.tyB (h : Ag w W S p gl gm V D m g gw ws gk room xs N rv bv us C) {b : Nat} (hb : bv.ownBlock = some b) : Ty W b 26 ∧ S ≤ b := by
 obtain ⟨h1, c, q, h2⟩ := row_blk h.bb hb
 exact ⟨⟨c, q, h2⟩, h1⟩
theorem Ag.tyG (h : Ag w W S p gl gm V D m g gw ws gk room xs N rv bv us C) : Ty W g 109 ∧ Ty W gw 110 := by
 obtain ⟨⟨c, q, h1⟩, _, c2, q2, h2⟩ := h.sp.cellsG
 exact ⟨⟨c, q, h1⟩, ⟨c2, q2, h2⟩⟩
theorem Dsk.up {F : Nat → Prop} {B : Nat} (h : Dsk W B gk room xs N) (hu : Up F W W') (h1 : ¬ F gk) (h2 : ∀ b, room.ownBlock = some b → ¬ F b) : Dsk W' B gk room xs N :=
 ⟨by rw [hu.block gk (Array.getElem?_eq_some_iff.1 h.blk).1 h1]; exact h.blk, ⟨owns_up h.own.1 hu h2, h.own.2⟩, h.len, h.big⟩
/-- Whatever a call has done to it. -/
theorem Ag.next {F : Nat → Prop} {V' : Nat → Value} {D' : AD} {ws' : List Nat} {room' : Value} {xs' : List Int} {N' : Nat} (h : Ag w W S p gl gm V D m g gw ws gk room xs N rv bv us C) (hu : Up F W W') (hF : ∀ b, F b → S ≤ b) (hr : ∀ b, rv.ownBlock = some b → ¬ F b) (hb : ∀ b, bv.ownBlock = some b → ¬ F b) (hdk : Dk W' p gl gm V' D') (hft : ∀ b, Ft p gl gm V' b → S ≤ b) (hsp : Sp W' m g gw 3 400 ws') (hds : Dsk W' S gk room' xs' N') : Ag w W' S p gl gm V' D' m g gw ws' gk room' xs' N' rv bv us C :=
 ⟨hdk, hsp, hds, h.rr.up hu hr, owns_up h.bb hu hb, h.ul, h.be, hft, h.lo, h.gb, h.bel.trans (hu.below h.sz hF), h.sw⟩
theorem Ag.below (h : Ag w W S p gl gm V D m g gw ws gk room xs N rv bv us C) (hb : Below W.heap.size W W') : Ag w W' S p gl gm V D m g gw ws gk room xs N rv bv us C :=
 h.next (F := fun _ => False) (Up.of_below hb) (fun _ h => h.elim) (fun _ _ h => h) (fun _ _ h => h) (h.dk.below hb) h.ft (h.sp.below hb) (h.ds.up (F := fun _ => False) (Up.of_below hb) (fun h => h) (fun _ _ h => h))
/-- An argument's bytes stay. -/
theorem Ag.arg (h : Ag w W S p gl gm V D m g gw ws gk room xs N rv bv us C) {v : Value} {bs : List Int} (hb : IsB w v bs) : IsB W v bs := hb.below (by rw [h.sw]; exact h.bel)
/-- The blocks of the desk, the disk, and so on are unlike one another. -/
theorem Ag.deskF (h : Ag w W S p gl gm V D m g gw ws gk room xs N rv bv us C) {b : Nat} {t : TypeId} (hb : Ty W b t) (h1 : t ≠ 85) (h2 : t ≠ 5) : ¬ (b = gk ∨ room.ownBlock = some b) := fun e => by
 rcases e with rfl | e
 · exact h1 (hb.one h.tyK)
 · exact h2 (hb.one (h.tyO e).1)
theorem Ag.diskF (h : Ag w W S p gl gm V D m g gw ws gk room xs N rv bv us C) {b : Nat} {t : TypeId} (hb : Ty W b t) (h1 : t ≠ 116) (h2 : t ≠ 118) : ¬ Ft p gl gm V b := fun e => by
 rcases h.dk.ty e hb with e | e
 · exact h1 e
 · exact h2 e
theorem ft_desk (h : Ag w W S p gl gm V D m g gw ws gk room xs N rv bv us C) : ∀ b, Ft p gl gm V b → ¬ (b = gk ∨ room.ownBlock = some b) := fun b hb e => by
 rcases e with rfl | e
 · exact h.diskF h.tyK (by decide) (by decide) hb
 · exact h.diskF (h.tyO e).1 (by decide) (by decide) hb
theorem Ag.desk {room' : Value} {xs' : List Int} {N' : Nat} (h : Ag w W S p gl gm V D m g gw ws gk room xs N rv bv us C) (hu : Up (fun b => b = gk ∨ room.ownBlock = some b) W W') (hds : Dsk W' S gk room' xs' N') : Ag w W' S p gl gm V D m g gw ws gk room' xs' N' rv bv us C :=
 h.next hu (fun b e => by
  rcases e with rfl | e
  · exact h.lo.2.2
  · exact (h.tyO e).2) (fun b hb => h.deskF (h.rr.ty hb).1 (by decide) (by decide)) (fun b hb => h.deskF (h.tyB hb).1 (by decide) (by decide)) (h.dk.up hu (ft_desk h)) h.ft (h.sp.up hu (h.deskF h.tyG.1 (by decide) (by decide)) (h.deskF h.tyG.2 (by decide) (by decide))) hds
theorem up_kp (hu : Kp (Off gk room) W W') : Up (fun b => b = gk ∨ room.ownBlock = some b) W W' := Kp.up hu
/-- The desk lends. -/
theorem ag_lend {vb : Value} {bs : List Int} (h : Ag w W S p gl gm V D m g gw ws gk room xs N rv bv us C) (hvb : ∀ W', Up (fun b => b = gk ∨ room.ownBlock = some b) W W' → IsB W' vb bs) (hl : bs.length ≤ 2000) :
 Calls Tryd.prog 33 #[.pointer (some ⟨gk, 0, none⟩), vb] W fun e w' => ∃ g2 R c, e = .returned (.slice (some ⟨g2, 0, none⟩) bs.length c) ∧ Hid (Ag w w' S p gl gm V D m g gw ws gk (.slice (some ⟨g2, 0, none⟩) R c) (lentL bs R) bs.length rv bv us C ∧ bs.length ≤ R ∧ Up (fun b => b = gk ∨ room.ownBlock = some b) W w') := by
 refine (lend_calls h.ds h.sz (fun W' hK => hvb W' (up_kp hK)) (by omega)).mono ?_
 rintro e w' ⟨g2, R, c, rfl, hd, hR, _, hK⟩
 exact ⟨g2, R, c, rfl, hide ⟨h.desk (up_kp hK) hd, hR, up_kp hK⟩⟩
theorem Dsk.lent {g2 R c : Nat} {bs : List Int} (h : Dsk W S gk (.slice (some ⟨g2, 0, none⟩) R c) (lentL bs R) N) (hR : bs.length ≤ R) : IsB W (.slice (some ⟨g2, 0, none⟩) bs.length c) bs := by
 have hi := h.own.isB
 by_cases h0 : 0 < R
 · have := IsB.first hi (k := bs.length) hR h0
   rwa [show (lentL bs R).take bs.length = bs by unfold lentL; exact List.take_left] at this
 · have hb0 : bs = [] := List.eq_nil_of_length_eq_zero (by omega)
   subst hb0
   refine ⟨by simp, some ⟨g2, 0, none⟩, c, rfl, by simp, h.own.room.2.2.1, (fun h => by cases h), fun hp => by simp at hp⟩
/-- The desk has it back. -/
theorem ag_back {g2 R c : Nat} {vb : Value} {bs : List Int} (h : Ag w W S p gl gm V D m g gw ws gk (.slice (some ⟨g2, 0, none⟩) R c) (lentL bs R) bs.length rv bv us C) (hR : bs.length ≤ R) (hvb : IsB W vb bs) :
 Calls Tryd.prog 34 #[.pointer (some ⟨gk, 0, none⟩), vb] W fun e w' => e = .returned (.bool true) ∧ Below W.heap.size W w' := back_calls h.ds hR hvb
/-- The desk is wiped. -/
theorem ag_wipe {g2 R c : Nat} (h : Ag w W S p gl gm V D m g gw ws gk (.slice (some ⟨g2, 0, none⟩) R c) xs N rv bv us C) :
 Calls Tryd.prog 35 #[.pointer (some ⟨gk, 0, none⟩)] W fun e w' => (∃ r, e = .returned r) ∧ Hid ((∃ ys, Ag w w' S p gl gm V D m g gw ws gk (.slice (some ⟨g2, 0, none⟩) R c) ys N rv bv us C) ∧ Up (fun b => b = gk ∨ b = g2) W w') := by
 refine (wipe_calls h.ds).mono ?_
 rintro e w' ⟨hr, ⟨ys, hd⟩, hK⟩
 have hu := up_kp hK
 exact ⟨hr, hide ⟨⟨ys, h.desk hu hd⟩, ⟨hu.os, hu.tape, hu.output, hu.size, fun k hk hn => hu.block k hk (fun e => hn (by
  rcases e with e | e
  · exact Or.inl e
  · exact Or.inr (by simpa [Value.ownBlock] using e.symm)))⟩⟩⟩
end
end Go.Proofs.YtlofoklfggmbiaaDoor

namespace Go.Proofs.YtlofoklfggmbiaaDoor
open Go.RowKit Go.Maps

section
variable {w W W' : World} {S p gl gm m g gw gk N : Nat} {V : Nat → Value} {D : AD} {ws : List Nat} {room rv bv : Value} {xs : List Int} {us : List Value} {C : List Chn} {bs : List Int} {g2 R c k : Nat}
theorem Ag.take_len {CC : List Chn} (hc : Chs D ws CC) (hC : CC.length ≤ 24) (hk : k ≤ 5) : ((allF 3 0 ws).take k).length = k := by
 have := hc.fre
 rw [List.length_take]
 omega
/-- A writer of what was lent. -/
theorem ag_newW (h : Ag w W S p gl gm V D m g gw ws gk (.slice (some ⟨g2, 0, none⟩) R c) (lentL bs R) bs.length rv bv us C) {CC : List Chn} (hc : Chs D ws CC) (hC : CC.length ≤ 24) (hR : bs.length ≤ R) (hl : bs.length ≤ 2000) (hk : secN (bs.length : Int) = (k : Int)) (hk5 : k ≤ 5) :
 Calls Tryd.prog 30 #[.pointer (some ⟨p, 0, none⟩), .pointer (some ⟨g, 0, none⟩), .slice (some ⟨g2, 0, none⟩) bs.length c] W fun e w' => ∃ pw gn cn rw_, e = .returned (.tuple #[.pointer (some ⟨pw, 0, none⟩), .int .i64 0]) ∧ Hid (Ag w w' S p gl gm V D m g gw (claimAll 3 400 ws ((allF 3 0 ws).take k)) gk (.slice (some ⟨g2, 0, none⟩) R c) (lentL bs R) bs.length rv bv us C ∧ Wr w' p pw gn cn rw_ bs ((allF 3 0 ws).take k) 0 ∧ (∀ x, Fw pw gn rw_ x → ¬ Ft p gl gm V x ∧ x ≠ gk ∧ x ≠ g2) ∧ allF 3 0 (claimAll 3 400 ws ((allF 3 0 ws).take k)) = (allF 3 0 ws).drop k ∧ S ≤ pw) := by
 have hfr := hc.fre
 have hg2 : Ty W g2 5 := (h.tyO rfl).1
 have hsz := h.sz
 refine (newWriter_wr h.dk h.sp h.tt (by omega) hk (by rw [← freeN_allF 3]; omega) (fun x hx => by have := hc.frr x (List.mem_of_mem_take hx); rw [hc.la]; omega) (h.ds.lent hR) (fun _ x hx e => ?_) (by have := h.gS; have := h.lo; omega)).mono ?_
 · have hx2 : g2 = x := by simpa [blkOf] using hx
   exact absurd (hg2.one (by rw [hx2, e]; exact h.tyG.2)) (by decide)
 rintro e w' ⟨pw, gn, cn, rw_, rfl, hW, hF, hS, hU⟩
 have hne : ∀ {b : Nat} {t : TypeId}, Ty W b t → t ≠ 110 → ¬ b = gw := fun hb ht e => ht (hb.one (e ▸ h.tyG.2))
 have hA := h.next (D' := D) (V' := V) (room' := .slice (some ⟨g2, 0, none⟩) R c) hU (fun b e => by have e : b = gw := e; have := h.lo; omega) (fun b hb => hne (h.rr.ty hb).1 (by decide)) (fun b hb => hne (h.tyB hb).1 (by decide)) (h.dk.up hU (fun b hb e => h.diskF h.tyG.2 (by decide) (by decide) (e ▸ hb))) h.ft hS (h.ds.up hU (hne h.tyK (by decide)) (fun b hb => hne (h.tyO hb).1 (by decide)))
 exact ⟨pw, gn, cn, rw_, rfl, hide ⟨hA, hW, fun x hx => ⟨fun e => by have := h.dk.lt e; have := hF x hx; omega, fun e => by have := h.tyK.lt; have := hF x hx; omega, fun e => by have := hg2.lt; have := hF x hx; omega⟩, allF_taken h.sp hS, by have := hF pw (Or.inl rfl); omega⟩⟩
/-- A writer that is stepped. -/
structure As (w W : World) (S p gl gm : Nat) (V : Nat → Value) (D : AD) (m g gw : Nat) (ws : List Nat) (gk : Nat) (room : Value) (xs : List Int) (N : Nat) (rv bv : Value) (us : List Value) (C : List Chn) (pw gn cn : Nat) (rw_ : Value) (bs : List Int) (ks : List Nat) (j : Nat) : Prop where
 ag : Ag w W S p gl gm V (putAll D bs ks j) m g gw ws gk room xs N rv bv us C
 wr : Wr W p pw gn cn rw_ bs ks j
 ap : ∀ x, Fw pw gn rw_ x → ¬ Ft p gl gm V x
 lo : S ≤ pw
theorem As.step {pw gn cn j : Nat} {rw_ : Value} {ks : List Nat} (h : As w W S p gl gm V D m g gw ws gk room xs N rv bv us C pw gn cn rw_ bs ks j) (hj : j < ks.length) (hks : ∀ x ∈ ks, x < 400) (hla : D.la.length = 400) (hwt : 0 ≤ D.wt ∧ D.wt ≤ 1000) (hwl : ∀ x, ((D.wr x).length : Int) ≤ D.wt) (hk5 : ks.length ≤ 5) :
 Calls Tryd.prog 32 #[.pointer (some ⟨pw, 0, none⟩)] W fun e w' => e = .returned (.tuple #[.bool (decide (j + 1 = ks.length)), .int .i64 0]) ∧ Hid (∃ rw' V', As w w' S p gl gm V' D m g gw ws gk room xs N rv bv us C pw gn cn rw' bs ks (j + 1)) := by
 have hsz := h.ag.sz
 refine (wstep_calls h.ag.dk h.wr h.ap hj (fun x hx => by rw [putAll_la, hla]; exact hks x hx) (by rw [putAll_wt]; omega) (by rw [putAll_wt]; omega) (by have := putAll_len D bs ks (ks.getD j 0) j; have := hwl (ks.getD j 0); omega) h.ag.tt.tab).mono ?_
 rintro e w' ⟨rw', V', rfl, hD, hW, hFt, hbk, hU⟩
 have hne : ∀ {b : Nat} {t : TypeId}, Ty W b t → t ≠ 81 → t ≠ 116 → t ≠ 118 → ¬ (b = pw ∨ Ft p gl gm V b) := fun hb h1 h2 h3 e => by
  rcases e with e | e
  · exact h1 (hb.one (e ▸ h.wr.arr.ty))
  · exact h.ag.diskF hb h2 h3 e
 have hfb : ∀ b, Fw pw gn rw' b → Fw pw gn rw_ b := fun b hb => by
  rcases hb with hb | hb | hb
  · exact Or.inl hb
  · exact Or.inr (Or.inl hb)
  · exact Or.inr (Or.inr (hbk b hb))
 refine ⟨rfl, hide ⟨rw', V', ⟨h.ag.next hU (fun b e => ?_) (fun b hb => hne (h.ag.rr.ty hb).1 (by decide) (by decide) (by decide)) (fun b hb => hne (h.ag.tyB hb).1 (by decide) (by decide) (by decide)) hD (fun b hb => ?_) (h.ag.sp.up hU (hne h.ag.tyG.1 (by decide) (by decide) (by decide)) (hne h.ag.tyG.2 (by decide) (by decide) (by decide))) (h.ag.ds.up hU (hne h.ag.tyK (by decide) (by decide) (by decide)) (fun b hb => hne (h.ag.tyO hb).1 (by decide) (by decide) (by decide))), hW, fun x hx hf => ?_, h.lo⟩⟩⟩
 · rcases e with e | e
   · rw [e]; exact h.lo
   · exact h.ag.ft b e
 · rcases hFt b hb with e | e
   · exact h.ag.ft b e
   · omega
 · rcases hFt x hf with e | e
   · exact h.ap x (hfb x hx) e
   · have := h.wr.lt (hfb x hx); omega
/-- The writer's own block, as long as it is asked for its ref. -/
def Wb (W : World) (p pw : Nat) (hs : List Int) (fi le : Int) : Prop := ∃ nv j rw_, Arr W pw 81 (writerV p hs fi le nv j rw_)
theorem Wb.up {F : Nat → Prop} {pw : Nat} {hs : List Int} {fi le : Int} (h : Wb W p pw hs fi le) (hu : Up F W W') (hF : ¬ F pw) : Wb W' p pw hs fi le := by
 obtain ⟨nv, j, rw_, h⟩ := h
 exact ⟨nv, j, rw_, h.up hu hF⟩
theorem Wb.ty {pw : Nat} {hs : List Int} {fi le : Int} (h : Wb W p pw hs fi le) : Ty W pw 81 := by
 obtain ⟨nv, j, rw_, h⟩ := h
 exact h.ty
/-- Put of what was lent. -/
theorem ag_put (h : Ag w W S p gl gm V D m g gw ws gk (.slice (some ⟨g2, 0, none⟩) R c) (lentL bs R) bs.length rv bv us C) {CC : List Chn} (hc : Chs D ws CC) (hC : CC.length ≤ 24) (hR : bs.length ≤ R) (hl : bs.length ≤ 2000) (hk : secN (bs.length : Int) = (k : Int)) (hk5 : k ≤ 5) :
 Calls Tryd.prog 9 #[.pointer (some ⟨p, 0, none⟩), .pointer (some ⟨g, 0, none⟩), .slice (some ⟨g2, 0, none⟩) bs.length c] W fun e w' => ∃ g3 c3 V', e = .returned (.tuple #[.agg (refV (shaOf bs) ((((allF 3 0 ws).take k).getD 0 0 : Nat) : Int) (bs.length : Int)).toArray, .slice (some ⟨g3, 0, none⟩) k c3, .int .i64 0]) ∧ Hid (Ag w w' S p gl gm V' (putAll D bs ((allF 3 0 ws).take k) k) m g gw (claimAll 3 400 ws ((allF 3 0 ws).take k)) gk (.slice (some ⟨g2, 0, none⟩) R c) (lentL bs R) bs.length rv bv us C ∧ allF 3 0 (claimAll 3 400 ws ((allF 3 0 ws).take k)) = (allF 3 0 ws).drop k ∧ Up (fun b => b = gw ∨ Ft p gl gm V b) W w') := by
 have hfr := hc.fre
 have hg2 : Ty W g2 5 := (h.tyO rfl).1
 have hsz := h.sz
 have hwt := hc.wt
 have hgS := h.gS
 have hlo := h.lo
 refine (put_good h.dk h.sp h.tt (by omega) hk (by rw [← freeN_allF 3]; omega) (fun x hx => by have := hc.frr x (List.mem_of_mem_take hx); rw [hc.la]; omega) (h.ds.lent hR) (fun _ x hx e => ?_) (by omega) (fun x hx => ⟨by have := h.ft x hx; omega, fun e => h.diskF h.tyG.2 (by decide) (by decide) (e ▸ hx), fun e => h.diskF h.tyG.1 (by decide) (by decide) (e ▸ hx)⟩) hwt.1 (by omega) (fun x => by have := hc.wl x; omega) rfl).mono ?_
 · have hx2 : g2 = x := by simpa [blkOf] using hx
   exact absurd (hg2.one (by rw [hx2, e]; exact h.tyG.2)) (by decide)
 rintro e w' ⟨g3, c3, V', rfl, _, hD, hS, hFt, hU⟩
 have hne : ∀ {b : Nat} {t : TypeId}, Ty W b t → t ≠ 110 → t ≠ 116 → t ≠ 118 → ¬ (b = gw ∨ Ft p gl gm V b) := fun hb h1 h2 h3 e => by
  rcases e with e | e
  · exact h1 (hb.one (e ▸ h.tyG.2))
  · exact h.diskF hb h2 h3 e
 refine ⟨g3, c3, V', rfl, hide ⟨h.next hU (fun b e => ?_) (fun b hb => hne (h.rr.ty hb).1 (by decide) (by decide) (by decide)) (fun b hb => hne (h.tyB hb).1 (by decide) (by decide) (by decide)) hD (fun b hb => ?_) hS (h.ds.up hU (hne h.tyK (by decide) (by decide) (by decide)) (fun b hb => hne (h.tyO hb).1 (by decide) (by decide) (by decide))), allF_taken h.sp hS, hU⟩⟩
 · rcases e with e | e
   · omega
   · exact h.ft b e
 · rcases hFt b hb with e | e
   · exact h.ft b e
   · omega
/-- What is got of a chain that stands. -/
theorem ag_get {ch : Chn} (h : Ag w W S p gl gm V D m g gw ws gk room xs N rv bv us C) (hc : Chs D ws C) (hm : ch ∈ C) (hr : D.rd ≤ 900000) :
 Calls Tryd.prog 17 #[.pointer (some ⟨p, 0, none⟩), .int .i64 3, .agg (rfV (refOf ch)).toArray] W fun e w' => ∃ ra rn rc, e = .returned (.tuple #[.slice ra rn rc, .int .i64 0, .int .i64 0]) ∧ Hid (Own8 w' W.heap.size (.slice ra rn rc) ch.1 ∧ Ag w w' S p gl gm V (D.reads ch.2.length) m g gw ws gk room xs N rv bv us C ∧ Up (fun b => b = p) W w') := by
 have hla := hc.la
 have hcn := hc.cnt ch hm
 have hcp := hc.pos ch hm
 have hcl := hc.len ch hm
 have hrd := hc.rd
 have h0 := hc.rng ch hm _ (getD_mem6 hcp)
 have hq := get_good (k := ch.2.length) h.dk h.tt (fun x hx => by have := h.ft x hx; have := h.gS; omega) (shaOf_len ch.1) (sha_bytes ch.1) (ch.1.length : Int) (by omega : 1 ≤ 3) (by omega) hcn.symm hcp (fi := ch.2.getD 0 0) (by omega) hrd.1 (by omega)
 have hg := put_got (heap := 3) (sd := 400) (D := D) (N := D.now) (by omega) hcn hcp (fun x hx => by have := hc.rng ch hm x hx; omega) (hc.nod ch hm) (by omega) ((ch.2.getD 0 0 : Nat) : Int) (fun t ht => by rw [hc.now ch hm t ht, putAll_in D ch.1 (hc.nod ch hm) (Nat.le_refl _) ht])
 obtain ⟨g1, g2', g3⟩ := hg
 rw [hla, g2', show outE (goS D.now (shaOf ch.1) ((ch.2.getD 0 0 : Nat) : Int) (ch.1.length : Int) 3 400 ch.2.length (begS 3 400 (ch.2.getD 0 0))) = 0 from by unfold outE; rw [if_pos g2']] at hq
 refine hq.mono ?_
 rintro e w' ⟨ra, rn, rc, n9, rfl, q1, q2, q3, q4⟩
 rw [g1] at q1
 rw [g3] at q3
 subst q3
 have hty := h.dk.blk.ty
 have hne : ∀ {b : Nat} {t : TypeId}, Ty W b t → t ≠ 116 → ¬ b = p := fun hb ht e => ht (hb.one (e ▸ hty))
 exact ⟨ra, rn, rc, rfl, hide ⟨q1, h.next q4 (fun b e => by have e : b = p := e; rw [e]; exact h.ft p (Or.inl rfl)) (fun b hb => hne (h.rr.ty hb).1 (by decide)) (fun b hb => hne (h.tyB hb).1 (by decide)) q2 h.ft (h.sp.up q4 (hne h.tyG.1 (by decide)) (hne h.tyG.2 (by decide))) (h.ds.up q4 (hne h.tyK (by decide)) (fun b hb => hne (h.tyO hb).1 (by decide))), q4⟩⟩
/-- A sector that is read. -/
theorem ag_read {i : Nat} (h : Ag w W S p gl gm V D m g gw ws gk room xs N rv bv us C) (hla : D.la.length = 400) (hi : i < 400) (hr : 0 ≤ D.rd ∧ D.rd ≤ 900000) :
 Calls Tryd.prog 15 #[.pointer (some ⟨p, 0, none⟩), .int .i64 (i : Int)] W fun e w' => ∃ gx, e = .returned (.tuple #[.slice (some ⟨gx, 0, none⟩) 512 512, .int .i64 0]) ∧ Hid (W.heap.size ≤ gx ∧ Arr w' gx 118 (u8V (D.now i)) ∧ Ag w w' S p gl gm V (D.reads 1) m g gw ws gk room xs N rv bv us C) := by
 refine (read_calls h.dk (by omega) hr.1 (by omega)).mono ?_
 rintro e w' ⟨gx, rfl, q1, q2, q3, q4⟩
 have hU : Up (fun b => b = p) W w' := Up.of_grown q4 (fun g hg => by injection hg with hg; exact hg.symm)
 have hty := h.dk.blk.ty
 have hne : ∀ {b : Nat} {t : TypeId}, Ty W b t → t ≠ 116 → ¬ b = p := fun hb ht e => ht (hb.one (e ▸ hty))
 exact ⟨gx, rfl, hide ⟨q1, q2, h.next hU (fun b e => by have e : b = p := e; rw [e]; exact h.ft p (Or.inl rfl)) (fun b hb => hne (h.rr.ty hb).1 (by decide)) (fun b hb => hne (h.tyB hb).1 (by decide)) q3 h.ft (h.sp.up hU (hne h.tyG.1 (by decide)) (hne h.tyG.2 (by decide))) (h.ds.up hU (hne h.tyK (by decide)) (fun b hb => hne (h.tyO hb).1 (by decide)))⟩⟩
end
end Go.Proofs.YtlofoklfggmbiaaDoor

namespace Go.Proofs.YtlofoklfggmbiaaDoor
open Go.RowKit Go.Maps

theorem infoSlC : (Tryd.prog.info? 26).map (fun i => (i.zero, i.size, i.bytes)) = some (some (.slice none 0 0), 1, 24) := by kernel_rfl
theorem desk_back_enter (v u : Value) (W : World) : (callFunc 34 #[v, u]).run Tryd.prog W = .ok (.enter 34 #[v, u]) W := by kernel_rfl
theorem desk_lend_enter (v u : Value) (W : World) : (callFunc 33 #[v, u]).run Tryd.prog W = .ok (.enter 33 #[v, u]) W := by kernel_rfl
theorem sound_enterC (v u z q : Value) (W : World) : (callFunc 37 #[v, u, z, q]).run Tryd.prog W = .ok (.enter 37 #[v, u, z, q]) W := by kernel_rfl
theorem fieldHash_run_x (a0 a1 a2 a3 a4 a5 a6 a7 a8 a9 b0 b1 b2 b3 b4 b5 b6 b7 b8 b9 c0 c1 c2 c3 c4 c5 c6 c7 c8 c9 d0 d1 fi le : Int) (W : World) : (Instr.field 34 (.agg (refV [a0, a1, a2, a3, a4, a5, a6, a7, a8, a9, b0, b1, b2, b3, b4, b5, b6, b7, b8, b9, c0, c1, c2, c3, c4, c5, c6, c7, c8, c9, d0, d1] fi le).toArray) 0).run Tryd.prog W = .ok (.agg ([a0, a1, a2, a3, a4, a5, a6, a7, a8, a9, b0, b1, b2, b3, b4, b5, b6, b7, b8, b9, c0, c1, c2, c3, c4, c5, c6, c7, c8, c9, d0, d1].map (Value.int .u8)).toArray) W := by kernel_rfl
theorem fieldHash_run {hs : List Int} (hh : hs.length = 32) (fi le : Int) (W : World) : (Instr.field 34 (.agg (refV hs fi le).toArray) 0).run Tryd.prog W = .ok (.agg (hs.map (Value.int .u8)).toArray) W := by
 match hs, hh with
 | [a0, a1, a2, a3, a4, a5, a6, a7, a8, a9, b0, b1, b2, b3, b4, b5, b6, b7, b8, b9, c0, c1, c2, c3, c4, c5, c6, c7, c8, c9, d0, d1], _ => exact fieldHash_run_x a0 a1 a2 a3 a4 a5 a6 a7 a8 a9 b0 b1 b2 b3 b4 b5 b6 b7 b8 b9 c0 c1 c2 c3 c4 c5 c6 c7 c8 c9 d0 d1 fi le W
section
variable {ops : Array Oper} {rest : List Oper} {o : Oper} {a : Act} {Q : Exit → Act → World → Prop} {w : World}
set_option maxRecDepth 100000 in
theorem wpList_app2B (hgd : o.guard = none) (x y : Operand) (ho : o.op = .call { callee := .builtin .append, args := #[x, y], argTypes := #[52, 52] }) {B g : Nat} {v u : Value} {us : List Value} (hx : a.eval x = v) (hrow : Row w B 26 v us) (hy : a.eval y = .slice (some ⟨g, 0, none⟩) 2 2)
 (hc : w.cell? ⟨g, 0, none⟩ = some u ∧ w.cell? ⟨g, 1, none⟩ = some u) (h1 : u.oneCell' = true) (hl : us.length ≤ 1000000) (hB : B ≤ w.heap.size)
 (hk : ∀ v' w', Row w' B 26 v' (us ++ [u, u]) → w.grownBy w' v.ownBlock → wpList Tryd.prog ops Q rest (a.put o.dst v') w') : wpList Tryd.prog ops Q (o :: rest) a w := by
 refine wpList_plain hgd fun K hK => ?_
 obtain ⟨i0, hi, hz0, hz1, hz2⟩ := info_parts infoSlC
 obtain ⟨v', w', hr, h2, h3, h4, h5⟩ := run_append_share (P := Tryd.prog) w B 52 o.type 26 i0 (.slice none 0 0) 24 Tryd.underlying52 hi hz0 hz1 hz2 rfl v us hrow ⟨g, 0, none⟩ 2 2 [u, u] rfl (fun j z hu => by
  match j with
  | 0 =>
    injection hu with hu
    subst hu
    exact hc.1
  | 1 =>
    injection hu with hu
    subst hu
    exact hc.2
  | j + 2 => simp at hu) (fun z hz => by
    rcases List.mem_cons.1 hz with rfl | hz
    · exact h1
    · rw [List.mem_singleton.1 hz]; exact h1) (by unfold maxLen; omega) (by omega) hB
 unfold Oper.wp execOp
 simp only [ho, resolve, invoke, builtin, Sem.run_bind, Sem.run_pure, Result.andThen_ok, List.map_toArray, List.map_cons, List.map_nil, hx, hy, hr]
 exact hK _ _ (hk v' w' h2 h3)
end
section
variable {w W W1 W2 W3 W4 : World} {S p gl gm m g gw gk N : Nat} {V : Nat → Value} {D : AD} {ws : List Nat} {room rv bv rv' bv' u : Value} {xs : List Int} {us : List Value} {C : List Chn} {bs : List Int} {c1 c2 : Chn}
theorem Ag.more (h : Ag w W S p gl gm V D m g gw ws gk room xs N rv bv us C) (hb : Below W.heap.size W W1) (hr : OwnR W2 S rv' (C.map refOf ++ [refOf c1, refOf c2])) (hg : W1.grownBy W2 rv.ownBlock) (hb2 : Below W2.heap.size W2 W3) (hB : Row W4 S 26 bv' (us ++ [u, u])) (hg2 : W3.grownBy W4 bv.ownBlock) (hu : ∃ a n k, u = .slice a n k ∧ IsB w (.slice a n k) c1.1) (he : c2.1 = c1.1) : Ag w W4 S p gl gm V D m g gw ws gk room xs N rv' bv' (us ++ [u, u]) (C ++ [c1] ++ [c2]) := by
 have h1 := h.below hb
 have u1 : Up (fun b => rv.ownBlock = some b) W1 W2 := up_own hg
 have u2 : Up (fun b => bv.ownBlock = some b) W3 W4 := up_own hg2
 have n1 : ∀ {b : Nat} {t : TypeId}, Ty W1 b t → t ≠ 34 → ¬ rv.ownBlock = some b := fun hb ht e => ht (hb.one (h1.rr.ty e).1)
 have d2 := h1.dk.up u1 (fun b hb e => h1.diskF (h1.rr.ty e).1 (by decide) (by decide) hb)
 have s2 := h1.sp.up u1 (n1 h1.tyG.1 (by decide)) (n1 h1.tyG.2 (by decide))
 have k2 := h1.ds.up u1 (n1 h1.tyK (by decide)) (fun b hb => n1 (h1.tyO hb).1 (by decide))
 have b2 : Row W2 S 26 bv us := owns_up h1.bb u1 (fun b hb => n1 (h1.tyB hb).1 (by decide))
 have d3 := d2.below hb2
 have s3 := s2.below hb2
 have k3 := k2.up (F := fun _ => False) (Up.of_below hb2) (fun h => h) (fun _ _ h => h)
 have r3 := hr.up (F := fun _ => False) (Up.of_below hb2) (fun _ _ h => h)
 have b3 : Row W3 S 26 bv us := owns_up b2 (F := fun _ => False) (Up.of_below hb2) (fun _ _ h => h)
 have tb : ∀ {b : Nat}, bv.ownBlock = some b → Ty W3 b 26 ∧ S ≤ b := fun hb => by
  obtain ⟨q1, c, q, q2⟩ := row_blk b3 hb
  exact ⟨⟨c, q, q2⟩, q1⟩
 have n2 : ∀ {b : Nat} {t : TypeId}, Ty W3 b t → t ≠ 26 → ¬ bv.ownBlock = some b := fun hb ht e => ht (hb.one (tb e).1)
 obtain ⟨⟨cg, mg, qg⟩, _, cw, mw, qw⟩ := s3.cellsG
 have bel3 : Below S w W3 := (h1.bel.trans (u1.below h1.sz (fun b e => (h1.rr.ty e).2))).trans (hb2.mono (by have := h1.sz; have := u1.size; omega))
 have hlen := h.ul
 refine ⟨d3.up u2 (fun b hb e => ?_), s3.up u2 (n2 ⟨cg, mg, qg⟩ (by decide)) (n2 ⟨cw, mw, qw⟩ (by decide)), k3.up u2 (n2 ⟨_, _, k3.blk⟩ (by decide)) (fun b hb => ?_), ?_, hB, ?_, fun i c hi => ?_, h.ft, h.lo, h.gb, bel3.trans (u2.below (by have := bel3.size; have := h.sw; omega) (fun b e => (tb e).2)), h.sw⟩
 · rcases d3.ty hb (tb e).1 with e | e <;> exact absurd e (by decide)
 · obtain ⟨_, c, q, q2⟩ := row_blk k3.own.1 hb
   exact n2 ⟨c, q, q2⟩ (by decide)
 · have z := r3.up u2 (fun b hb => n2 (r3.ty hb).1 (by decide))
   rw [List.append_assoc, List.map_append]
   exact z
 · simp [hlen]
 · obtain ⟨ua, un, uk, rfl, hI⟩ := hu
   rw [List.append_assoc] at hi
   by_cases hlt : i < C.length
   · rw [List.getElem?_append_left hlt] at hi
     obtain ⟨a, n, k, q1, q2⟩ := h.be i c hi
     exact ⟨a, n, k, by rw [List.getElem?_append_left (by omega)]; exact q1, q2⟩
   · rw [List.getElem?_append_right (by omega)] at hi
     rw [List.getElem?_append_right (by omega), hlen]
     match hj : i - C.length, hi with
     | 0, hi =>
       have e : c1 = c := by simpa [hj] using hi
       exact ⟨ua, un, uk, by simp, e ▸ hI⟩
     | 1, hi =>
       have e : c2 = c := by simpa [hj] using hi
       exact ⟨ua, un, uk, by simp, by rw [← e, he]; exact hI⟩
     | q + 2, hi => simp at hi
end
end Go.Proofs.YtlofoklfggmbiaaDoor
