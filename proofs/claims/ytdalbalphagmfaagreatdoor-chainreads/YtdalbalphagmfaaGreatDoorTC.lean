/- 6.11, in plain words: what a reading comes to, whatever lies there. ChainReads: a reading begun, its bytes; what the two readings tell. -/
import Derived.Test.YtdalbalphagmfaaGreatDoorRK
import Derived.Test.YtdalbalphagmfaaGreatDoorSG
import Derived.Test.YtdalbalphagmfaaGreatDoorTB
namespace Go.Proofs.YtdalbalphagmfaaGreatDoor
open Go.RowKit Go.Maps

end Go.Proofs.YtdalbalphagmfaaGreatDoor

namespace Go.Proofs.YtdalbalphagmfaaGreatDoor
open Go.RowKit Go.Maps

theorem gbytes_enter (v : Value) (W : World) : (callFunc 105 #[v]).run Tryz.prog W = .ok (.enter 105 #[v]) W := by kernel_rfl
theorem rbytes_enter (v : Value) (W : World) : (callFunc 70 #[v]).run Tryz.prog W = .ok (.enter 70 #[v]) W := by kernel_rfl
theorem rbroken_enter (v : Value) (W : World) : (callFunc 71 #[v]).run Tryz.prog W = .ok (.enter 71 #[v]) W := by kernel_rfl
/-- The bytes that are told. -/
def bytL (le : Int) (S : RS) : List Int := if (S.ns.length : Int) = secN le then S.by_ else []
section
variable {w W : World} {B gq heap sd : Nat} {hs : List Int} {fi le : Int} {nv pv : Value} {S : RS}
set_option maxRecDepth 100000 in
theorem gbytes_calls (h : Gst w B gq hs fi le heap sd S nv pv) (hby : S.br ≠ 0 → S.by_ = []) : Calls Tryz.prog 105 #[.pointer (some ⟨gq, 0, none⟩)] w fun e w' => ∃ ra rn rc, e = .returned (.slice ra rn rc) ∧ IsB w (.slice ra rn rc) (bytL le S) ∧ w' = w := by
 obtain ⟨at_, parts, hG, hp⟩ := h.ex
 obtain ⟨_, _, _, _, c38, c39, c40, _, _, _, _, _⟩ := hG.cells
 have hnil : ∀ l, l = [] → IsB w (.slice none 0 0) l := fun l hl => by
  subst hl
  exact (Own8.nil w 0).isB
 by_cases hbr : S.br = 0
 · have e1 : outE S = 0 := by unfold outE; rw [if_pos hbr]
   rw [e1] at c40
   by_cases hen : (S.ns.length : Int) = secN le
   · have e2 : outB le S = true := by unfold outB; rw [if_pos hbr, decide_eq_true hen]
     rw [e2] at c39
     have hI : IsB w pv (bytL le S) := by
      unfold bytL
      rw [if_pos hen, ← (hp hbr).1]
      exact hG.prt.isB
     obtain ⟨pa, pn, pc, hpv⟩ := hG.prt.shape
     subst hpv
     have HI := hide hI
     clear h hG hp hnil hbr hen e1 e2 hI hby
     go_enter Tryz.func105, Tryz.ntmps105
     go_wp2
     go_ret
     exact ⟨pa, pn, pc, rfl, HI.out, rfl⟩
   · have e2 : outB le S = false := by unfold outB; rw [if_pos hbr, decide_eq_false hen]
     rw [e2] at c39
     have HI := hide (hnil (bytL le S) (by unfold bytL; rw [if_neg hen]))
     clear h hG hp hnil hbr hen e1 e2 hby
     go_enter Tryz.func105, Tryz.ntmps105
     go_wp2
     go_ret
     exact ⟨none, 0, 0, rfl, HI.out, rfl⟩
 · have e1 : outE S = 61 := by unfold outE; rw [if_neg hbr]
   have e2 : outB le S = true := by unfold outB; rw [if_neg hbr]
   rw [e1] at c40
   rw [e2] at c39
   have HI := hide (hnil (bytL le S) (by unfold bytL; rw [hby hbr]; split <;> rfl))
   clear h hG hp hnil hbr e1 e2 hby
   go_enter Tryz.func105, Tryz.ntmps105
   go_wp2
   go_ret
   exact ⟨none, 0, 0, rfl, HI.out, rfl⟩
/-- The program's bytes are those. -/
theorem rbytes_told {p pr up ug fr to_ : Nat} {bv : Value} (h : Rd w B p pr up ug hs fi le fr to_ nv bv S) (hl : S.by_.length ≤ 2000000) : Calls Tryz.prog 70 #[.pointer (some ⟨pr, 0, none⟩)] w fun e w' => ∃ ra rn rc, e = .returned (.slice ra rn rc) ∧ IsB w' (.slice ra rn rc) (bytL le S) ∧ Below w.heap.size w w' := by
 by_cases he : (S.ns.length : Int) = secN le
 · refine (rbytes_end h he hl).mono ?_
   rintro e w' ⟨ra, rn, rc, rfl, ho, hb⟩
   refine ⟨ra, rn, rc, rfl, ?_, hb⟩
   unfold bytL
   rw [if_pos he]
   exact ho.isB
 · refine (rbytes_mid h he).mono ?_
   rintro e w' ⟨rfl, hb⟩
   refine ⟨none, 0, 0, rfl, ?_, hb⟩
   unfold bytL
   rw [if_neg he]
   exact (Own8.nil w' 0).isB
/-- A reader, and the document's. -/
structure Ey (W : World) (gy B p pr up ug B2 gq : Nat) (hs : List Int) (fi le : Int) (heap sd : Nat) (S : RS) (nv bv nq pq : Value) : Prop where
 arr : Arr W gy 115 [.pointer (some ⟨pr, 0, none⟩), .pointer (some ⟨gq, 0, none⟩)]
 rd : Rd W B p pr up ug hs fi le heap sd nv bv S
 gs : Gst W B2 gq hs fi le heap sd S nq pq
 by0 : S.br ≠ 0 → S.by_ = []
 byl : S.by_.length ≤ 2000000
 nsl : S.ns.length ≤ 65536
 nn : S.ns = [] → nv = .slice none 0 0
section
variable {w W W1 : World} {gy B p pr up ug B2 gq heap sd : Nat} {hs : List Int} {fi le : Int} {S : RS} {nv bv nq pq : Value}
theorem Ey.below (h : Ey W gy B p pr up ug B2 gq hs fi le heap sd S nv bv nq pq) (hb : Below W.heap.size W W1) : Ey W1 gy B p pr up ug B2 gq hs fi le heap sd S nv bv nq pq := ⟨h.arr.below hb, h.rd.below hb, h.gs.below hb, h.by0, h.byl, h.nsl, h.nn⟩
theorem Rd.numsE (h : Rd w B p pr up ug hs fi le heap sd nv bv S) (hl : S.ns.length ≤ 65536) (hnn : S.ns = [] → nv = .slice none 0 0) : Calls Tryz.prog 64 #[.pointer (some ⟨pr, 0, none⟩)] w fun e w' => ∃ ra rn rc, e = .returned (.slice ra rn rc) ∧ Row w' 0 3 (.slice ra rn rc) (iV S.ns) ∧ Below w.heap.size w w' := by
 have hc := h.cells.2.2.2.1
 rcases h.row.2 with ⟨hv, h1⟩ | ⟨g, cap, cur, hv, _, _, q1, _⟩
 · rw [iV_len] at h1
   have hn : S.ns = [] := List.eq_nil_of_length_eq_zero h1
   subst hv
   refine (numbers_nil hc).mono ?_
   rintro e w' ⟨rfl, rfl⟩
   refine ⟨none, 0, 0, rfl, ?_, Below.refl _ _⟩
   rw [hn]
   exact Row.nil _ _ _
 · rw [iV_len] at hv
   subst hv
   by_cases h0 : 0 < S.ns.length
   · refine (numbers_calls hc h.row hl h0).mono ?_
     rintro e w' ⟨g2, c2, rfl, hr, hb⟩
     exact ⟨_, _, _, rfl, Row.mono hr (Nat.zero_le _), hb⟩
   · have := hnn (List.eq_nil_of_length_eq_zero (by omega))
     cases this
set_option maxRecDepth 100000 in
set_option maxHeartbeats 8000000 in
theorem eholds_calls (h : Ey w gy B p pr up ug B2 gq hs fi le heap sd S nv bv nq pq) : Calls Tryz.prog 79 #[.pointer (some ⟨gy, 0, none⟩)] w fun e w' => e = .returned (.bool true) ∧ Below w.heap.size w w' := by
 obtain ⟨at_, parts, hG, hp⟩ := h.gs.ex
 obtain ⟨na, nc, hnq⟩ := hG.num.shape
 rw [iV_len] at hnq
 subst hnq
 obtain ⟨k, hk⟩ : ∃ k, S.ns.length = k := ⟨_, rfl⟩
 obtain ⟨br, hbr⟩ : ∃ br, S.br = br := ⟨_, rfl⟩
 have HSS : Hid (∀ W, Below w.heap.size w W → W.cell? ⟨gy, 0, none⟩ = some (.pointer (some ⟨pr, 0, none⟩)) ∧ W.cell? ⟨gy, 1, none⟩ = some (.pointer (some ⟨gq, 0, none⟩)) ∧ W.cell? ⟨gq, 41, none⟩ = some (.int .i64 br) ∧ W.cell? ⟨gq, 37, none⟩ = some (.slice na k nc)) := hide (fun W hW => by
  obtain ⟨_, _, _, c37, _, _, _, c41, _⟩ := (hG.below hW).cells
  rw [hk] at c37
  rw [hbr] at c41
  exact ⟨arr_cell (h.arr.below hW) rfl, arr_cell (h.arr.below hW) rfl, c41, c37⟩)
 have HBY : Hid (∀ W, Below w.heap.size w W → Calls Tryz.prog 70 #[.pointer (some ⟨pr, 0, none⟩)] W fun e w' => ∃ ra rn rc, e = .returned (.slice ra rn rc) ∧ IsB w' (.slice ra rn rc) (bytL le S) ∧ Below W.heap.size W w') := hide (fun W hW => rbytes_told (h.rd.below hW) h.byl)
 have HGB : Hid (∀ W, Below w.heap.size w W → Calls Tryz.prog 105 #[.pointer (some ⟨gq, 0, none⟩)] W fun e w' => ∃ ra rn rc, e = .returned (.slice ra rn rc) ∧ IsB W (.slice ra rn rc) (bytL le S) ∧ w' = W) := hide (fun W hW => gbytes_calls (h.gs.below hW) h.by0)
 have HBK : Hid (∀ W, Below w.heap.size w W → Calls Tryz.prog 71 #[.pointer (some ⟨pr, 0, none⟩)] W fun e w' => e = .returned (.int .i64 br) ∧ w' = W) := hide (fun W hW => by rw [← hbr]; exact rbroken_calls (h.rd.below hW))
 have HDN : Hid (∀ W, Below w.heap.size w W → Calls Tryz.prog 65 #[.pointer (some ⟨pr, 0, none⟩)] W fun e w' => e = .returned (.int .i64 (k : Int)) ∧ w' = W) := hide (fun W hW => by rw [← hk]; exact done_calls (h.rd.below hW).cells.2.2.2.2.1)
 have HNM : Hid (∀ W, Below w.heap.size w W → Calls Tryz.prog 64 #[.pointer (some ⟨pr, 0, none⟩)] W fun e w' => ∃ ra rn rc, e = .returned (.slice ra rn rc) ∧ Row w' 0 3 (.slice ra rn rc) (iV S.ns) ∧ Below W.heap.size W w') := hide (fun W hW => (h.rd.below hW).numsE h.nsl h.nn)
 have HSI : Hid (∀ W, Below w.heap.size w W → ∀ v, Row W 0 3 v (iV S.ns) → Calls Tryz.prog 11 #[v, .slice na k nc] W fun e w' => e = .returned (.bool true) ∧ Below W.heap.size W w') := hide (fun W hW v hr => by
  have hn := (hG.below hW).num
  rw [hk] at hn
  exact (sameInts6_calls hr hn).mono (fun e w' h => ⟨by rw [h.1, decide_eq_true rfl], h.2⟩))
 have hkk : ((k : Int) == (k : Int)) = true := by simp
 have hbb : (br == br) = true := by simp
 clear h hG hp hk hbr
 go_enter Tryz.func79, Tryz.ntmps79
 go_wp2_with fail
 have hx0 : Below w.heap.size w w.drew := (Below.refl _ _).drew
 refine wp_region_held_drew (S := fun W => W.cell? ⟨gy, 0, none⟩ = some (.pointer (some ⟨pr, 0, none⟩)) ∧ W.cell? ⟨gy, 1, none⟩ = some (.pointer (some ⟨gq, 0, none⟩)) ∧ W.cell? ⟨gq, 41, none⟩ = some (.int .i64 br) ∧ W.cell? ⟨gq, 37, none⟩ = some (.slice na k nc)) (by kernel_rfl) (unhide HSS _ hx0) (fun hHeld => ?_)
 refine wpAnyH_take (i := 0) (v := .pointer (some ⟨gy, 0, none⟩)) rfl (by kernel_rfl) (by kernel_rfl) (by kernel_rfl) (fun _ _ _ h => h) (Or.inl ⟨by rfl, fun w hSw => by obtain ⟨hS1, hS2, hS3, hS4⟩ := hSw; go_simp⟩) (by assumption) ?_
 simp only [fGa, fGz, Act.put, fSa, fSz, fSs]
 refine wpAnyH_take (i := 1) (v := .pointer (some ⟨gy, 0, none⟩)) rfl (by kernel_rfl) (by kernel_rfl) (by kernel_rfl) (fun _ _ _ h => h) (Or.inl ⟨by rfl, fun w hSw => by obtain ⟨hS1, hS2, hS3, hS4⟩ := hSw; go_simp⟩) (by assumption) ?_
 simp only [fGa, fGs, fGz, Act.put, fSa, fSz, fSs]
 refine wpAnyH_take (i := 2) (v := .pointer (some ⟨gy, 0, none⟩)) rfl (by kernel_rfl) (by kernel_rfl) (by kernel_rfl) (fun _ _ _ h => h) (Or.inl ⟨by rfl, fun w hSw => by obtain ⟨hS1, hS2, hS3, hS4⟩ := hSw; go_simp⟩) (by assumption) ?_
 simp only [fGa, fGs, fGz, Act.put, fSa, fSz, fSs]
 refine wpAnyH_take (i := 3) (v := .pointer (some ⟨pr, 0, none⟩)) rfl (by kernel_rfl) (by kernel_rfl) (by kernel_rfl) (fun _ _ _ h => h) (Or.inl ⟨by rfl, fun w hSw => by obtain ⟨hS1, hS2, hS3, hS4⟩ := hSw; go_simp⟩) (by assumption) ?_
 simp only [fGa, fGs, fGz, Act.put, fSa, fSz, fSs]
 refine wpAnyH_take (i := 5) (v := .pointer (some ⟨gy, 0, none⟩)) rfl (by kernel_rfl) (by kernel_rfl) (by kernel_rfl) (fun _ _ _ h => h) (Or.inl ⟨by rfl, fun w hSw => by obtain ⟨hS1, hS2, hS3, hS4⟩ := hSw; go_simp⟩) (by assumption) ?_
 simp only [fGa, fGs, fGz, Act.put, fSa, fSz, fSs]
 refine wpAnyH_take (i := 6) (v := .pointer (some ⟨gy, 0, none⟩)) rfl (by kernel_rfl) (by kernel_rfl) (by kernel_rfl) (fun _ _ _ h => h) (Or.inl ⟨by rfl, fun w hSw => by obtain ⟨hS1, hS2, hS3, hS4⟩ := hSw; go_simp⟩) (by assumption) ?_
 simp only [fGa, fGs, fGz, Act.put, fSa, fSz, fSs]
 refine wpAnyH_take (i := 7) (v := .pointer (some ⟨gy, 1, none⟩)) rfl (by kernel_rfl) (by kernel_rfl) (by kernel_rfl) (fun _ _ _ h => h) (Or.inl ⟨by rfl, fun w hSw => by obtain ⟨hS1, hS2, hS3, hS4⟩ := hSw; go_simp⟩) (by assumption) ?_
 simp only [fGa, fGs, fGz, Act.put, fSa, fSz, fSs]
 refine wpAnyH_take (i := 8) (v := .pointer (some ⟨gq, 0, none⟩)) rfl (by kernel_rfl) (by kernel_rfl) (by kernel_rfl) (fun _ _ _ h => h) (Or.inl ⟨by rfl, fun w hSw => by obtain ⟨hS1, hS2, hS3, hS4⟩ := hSw; go_simp⟩) (by assumption) ?_
 simp only [fGa, fGs, fGz, Act.put, fSa, fSz, fSs]
 refine wpAnyH_ready (rs := [4]) (by kernel_rfl) (by simp) (AllReadyH.cons rfl (fun K hK => ?_) AllReadyH.nil)
 refine step_call1C (by rfl) 70 rbytes_enter (.tmp 6) _ rfl rfl (unhide HBY _ hx0) ?_
 rintro e wa ⟨ra, rn, rc, rfl, hIa, hba⟩
 have hx1 : Below w.heap.size w wa := hx0.trans (hba.mono hx0.size)
 refine ⟨_, rfl, ?_⟩
 refine hK.out _ _ (unhide HSS _ hx1) (fun hJ1 => ?_)
 clear hK K
 simp only [fGa, fGs, fGz, Act.put, fSa, fSz, fSs]
 refine wpAnyH_ready (rs := [9]) (by kernel_rfl) (by simp) (AllReadyH.cons rfl (fun K hK => ?_) AllReadyH.nil)
 refine step_call1C (by rfl) 105 gbytes_enter (.tmp 11) _ rfl rfl (unhide HGB _ hx1) ?_
 rintro e wn ⟨rb, sn, sc, rfl, hIb, hwn⟩
 obtain rfl := hwn.symm
 clear hwn
 refine ⟨_, rfl, ?_⟩
 refine hK.out _ _ (unhide HSS _ hx1) (fun hJ2 => ?_)
 clear hK K
 simp only [fGa, fGs, fGz, Act.put, fSa, fSz, fSs]
 refine wpAnyH_ready (rs := [10]) (by kernel_rfl) (by simp) (AllReadyH.cons rfl (fun K hK => ?_) AllReadyH.nil)
 refine step_call2C (by rfl) 27 same6_enterB (.tmp 7) (.tmp 12) _ rfl rfl rfl (((same6_calls hIa hIb).mono (fun e w' h => (⟨by rw [h.1, decide_eq_true rfl], h.2⟩ : e = .returned (.bool true) ∧ w' = wa)))) ?_
 rintro e wn ⟨rfl, hwn⟩
 obtain rfl := hwn.symm
 clear hwn
 refine ⟨_, rfl, ?_⟩
 refine hK.out _ _ (unhide HSS _ hx1) (fun hJ3 => ?_)
 clear hK K
 simp only [fGa, fGs, fGz, Act.put, fSa, fSz, fSs]
 refine wpAnyH_take (i := 11) (v := .bool true) rfl (by kernel_rfl) (by kernel_rfl) (by kernel_rfl) (fun _ _ _ h => h) (Or.inl ⟨by rfl, fun w hSw => by obtain ⟨hS1, hS2, hS3, hS4⟩ := hSw; go_simp⟩) (by assumption) ?_
 simp only [fGa, fGs, fGz, Act.put, fSa, fSz, fSs]
 refine wpAnyH_take (i := 12) (v := .pointer (some ⟨gy, 0, none⟩)) rfl (by kernel_rfl) (by kernel_rfl) (by kernel_rfl) (fun _ _ _ h => h) (Or.inl ⟨by rfl, fun w hSw => by obtain ⟨hS1, hS2, hS3, hS4⟩ := hSw; go_simp⟩) (by assumption) ?_
 simp only [fGa, fGs, fGz, Act.put, fSa, fSz, fSs]
 refine wpAnyH_take (i := 13) (v := .pointer (some ⟨gy, 0, none⟩)) rfl (by kernel_rfl) (by kernel_rfl) (by kernel_rfl) (fun _ _ _ h => h) (Or.inl ⟨by rfl, fun w hSw => by obtain ⟨hS1, hS2, hS3, hS4⟩ := hSw; go_simp⟩) (by assumption) ?_
 simp only [fGa, fGs, fGz, Act.put, fSa, fSz, fSs]
 refine wpAnyH_take (i := 14) (v := .pointer (some ⟨gy, 0, none⟩)) rfl (by kernel_rfl) (by kernel_rfl) (by kernel_rfl) (fun _ _ _ h => h) (Or.inl ⟨by rfl, fun w hSw => by obtain ⟨hS1, hS2, hS3, hS4⟩ := hSw; go_simp⟩) (by assumption) ?_
 simp only [fGa, fGs, fGz, Act.put, fSa, fSz, fSs]
 refine wpAnyH_take (i := 15) (v := .pointer (some ⟨pr, 0, none⟩)) rfl (by kernel_rfl) (by kernel_rfl) (by kernel_rfl) (fun _ _ _ h => h) (Or.inl ⟨by rfl, fun w hSw => by obtain ⟨hS1, hS2, hS3, hS4⟩ := hSw; go_simp⟩) (by assumption) ?_
 simp only [fGa, fGs, fGz, Act.put, fSa, fSz, fSs]
 refine wpAnyH_take (i := 17) (v := .pointer (some ⟨gy, 0, none⟩)) rfl (by kernel_rfl) (by kernel_rfl) (by kernel_rfl) (fun _ _ _ h => h) (Or.inl ⟨by rfl, fun w hSw => by obtain ⟨hS1, hS2, hS3, hS4⟩ := hSw; go_simp⟩) (by assumption) ?_
 simp only [fGa, fGs, fGz, Act.put, fSa, fSz, fSs]
 refine wpAnyH_take (i := 18) (v := .pointer (some ⟨gy, 0, none⟩)) rfl (by kernel_rfl) (by kernel_rfl) (by kernel_rfl) (fun _ _ _ h => h) (Or.inl ⟨by rfl, fun w hSw => by obtain ⟨hS1, hS2, hS3, hS4⟩ := hSw; go_simp⟩) (by assumption) ?_
 simp only [fGa, fGs, fGz, Act.put, fSa, fSz, fSs]
 refine wpAnyH_take (i := 19) (v := .pointer (some ⟨gy, 1, none⟩)) rfl (by kernel_rfl) (by kernel_rfl) (by kernel_rfl) (fun _ _ _ h => h) (Or.inl ⟨by rfl, fun w hSw => by obtain ⟨hS1, hS2, hS3, hS4⟩ := hSw; go_simp⟩) (by assumption) ?_
 simp only [fGa, fGs, fGz, Act.put, fSa, fSz, fSs]
 refine wpAnyH_take (i := 20) (v := .pointer (some ⟨gq, 0, none⟩)) rfl (by kernel_rfl) (by kernel_rfl) (by kernel_rfl) (fun _ _ _ h => h) (Or.inl ⟨by rfl, fun w hSw => by obtain ⟨hS1, hS2, hS3, hS4⟩ := hSw; go_simp⟩) (by assumption) ?_
 simp only [fGa, fGs, fGz, Act.put, fSa, fSz, fSs]
 refine wpAnyH_take (i := 21) (v := .pointer (some ⟨gq, 0, none⟩)) rfl (by kernel_rfl) (by kernel_rfl) (by kernel_rfl) (fun _ _ _ h => h) (Or.inl ⟨by rfl, fun w hSw => by obtain ⟨hS1, hS2, hS3, hS4⟩ := hSw; go_simp⟩) (by assumption) ?_
 simp only [fGa, fGs, fGz, Act.put, fSa, fSz, fSs]
 refine wpAnyH_take (i := 22) (v := .pointer (some ⟨gq, 41, none⟩)) rfl (by kernel_rfl) (by kernel_rfl) (by kernel_rfl) (fun _ _ _ h => h) (Or.inl ⟨by rfl, fun w hSw => by obtain ⟨hS1, hS2, hS3, hS4⟩ := hSw; go_simp⟩) (by assumption) ?_
 simp only [fGa, fGs, fGz, Act.put, fSa, fSz, fSs]
 refine wpAnyH_take (i := 23) (v := .int .i64 br) rfl (by kernel_rfl) (by kernel_rfl) (by kernel_rfl) (fun _ _ _ h => h) (Or.inl ⟨by rfl, fun w hSw => by obtain ⟨hS1, hS2, hS3, hS4⟩ := hSw; go_simp⟩) (by assumption) ?_
 simp only [fGa, fGs, fGz, Act.put, fSa, fSz, fSs]
 refine wpAnyH_ready (rs := [16]) (by kernel_rfl) (by simp) (AllReadyH.cons rfl (fun K hK => ?_) AllReadyH.nil)
 refine step_call1GC (by rfl) 71 rbroken_enter (.tmp 18) _ rfl rfl (unhide HBK _ hx1) ?_
 rintro e wn ⟨rfl, hwn⟩
 obtain rfl := hwn.symm
 clear hwn
 refine ⟨_, rfl, ?_⟩
 refine hK.out _ _ (unhide HSS _ hx1) (fun hJ4 => ?_)
 clear hK K
 simp only [fGa, fGs, fGz, Act.put, fSa, fSz, fSs]
 refine wpAnyH_take (i := 24) (v := .bool true) rfl (by kernel_rfl) (by kernel_rfl) (by kernel_rfl) (fun _ _ _ h => h) (Or.inl ⟨by rfl, fun w hSw => by obtain ⟨hS1, hS2, hS3, hS4⟩ := hSw; go_simp⟩) (by assumption) ?_
 simp only [fGa, fGs, fGz, Act.put, fSa, fSz, fSs]
 refine wpAnyH_take (i := 25) (v := .bool true) rfl (by kernel_rfl) (by kernel_rfl) (by kernel_rfl) (fun _ _ _ h => h) (Or.inl ⟨by rfl, fun w hSw => by obtain ⟨hS1, hS2, hS3, hS4⟩ := hSw; go_simp⟩) (by assumption) ?_
 simp only [fGa, fGs, fGz, Act.put, fSa, fSz, fSs]
 refine wpAnyH_take (i := 26) (v := .bool true) rfl (by kernel_rfl) (by kernel_rfl) (by kernel_rfl) (fun _ _ _ h => h) (Or.inl ⟨by rfl, fun w hSw => by obtain ⟨hS1, hS2, hS3, hS4⟩ := hSw; go_simp⟩) (by assumption) ?_
 simp only [fGa, fGs, fGz, Act.put, fSa, fSz, fSs]
 refine wpAnyH_take (i := 27) (v := .pointer (some ⟨gy, 0, none⟩)) rfl (by kernel_rfl) (by kernel_rfl) (by kernel_rfl) (fun _ _ _ h => h) (Or.inl ⟨by rfl, fun w hSw => by obtain ⟨hS1, hS2, hS3, hS4⟩ := hSw; go_simp⟩) (by assumption) ?_
 simp only [fGa, fGs, fGz, Act.put, fSa, fSz, fSs]
 refine wpAnyH_take (i := 28) (v := .pointer (some ⟨gy, 0, none⟩)) rfl (by kernel_rfl) (by kernel_rfl) (by kernel_rfl) (fun _ _ _ h => h) (Or.inl ⟨by rfl, fun w hSw => by obtain ⟨hS1, hS2, hS3, hS4⟩ := hSw; go_simp⟩) (by assumption) ?_
 simp only [fGa, fGs, fGz, Act.put, fSa, fSz, fSs]
 refine wpAnyH_take (i := 29) (v := .pointer (some ⟨gy, 0, none⟩)) rfl (by kernel_rfl) (by kernel_rfl) (by kernel_rfl) (fun _ _ _ h => h) (Or.inl ⟨by rfl, fun w hSw => by obtain ⟨hS1, hS2, hS3, hS4⟩ := hSw; go_simp⟩) (by assumption) ?_
 simp only [fGa, fGs, fGz, Act.put, fSa, fSz, fSs]
 refine wpAnyH_take (i := 30) (v := .pointer (some ⟨pr, 0, none⟩)) rfl (by kernel_rfl) (by kernel_rfl) (by kernel_rfl) (fun _ _ _ h => h) (Or.inl ⟨by rfl, fun w hSw => by obtain ⟨hS1, hS2, hS3, hS4⟩ := hSw; go_simp⟩) (by assumption) ?_
 simp only [fGa, fGs, fGz, Act.put, fSa, fSz, fSs]
 refine wpAnyH_take (i := 31) (v := .pointer (some ⟨pr, 0, none⟩)) rfl (by kernel_rfl) (by kernel_rfl) (by kernel_rfl) (fun _ _ _ h => h) (Or.inl ⟨by rfl, fun w hSw => by obtain ⟨hS1, hS2, hS3, hS4⟩ := hSw; go_simp⟩) (by assumption) ?_
 simp only [fGa, fGs, fGz, Act.put, fSa, fSz, fSs]
 refine wpAnyH_take (i := 32) (v := .pointer (some ⟨pr, 0, none⟩)) rfl (by kernel_rfl) (by kernel_rfl) (by kernel_rfl) (fun _ _ _ h => h) (Or.inl ⟨by rfl, fun w hSw => by obtain ⟨hS1, hS2, hS3, hS4⟩ := hSw; go_simp⟩) (by assumption) ?_
 simp only [fGa, fGs, fGz, Act.put, fSa, fSz, fSs]
 refine wpAnyH_take (i := 34) (v := .pointer (some ⟨gy, 0, none⟩)) rfl (by kernel_rfl) (by kernel_rfl) (by kernel_rfl) (fun _ _ _ h => h) (Or.inl ⟨by rfl, fun w hSw => by obtain ⟨hS1, hS2, hS3, hS4⟩ := hSw; go_simp⟩) (by assumption) ?_
 simp only [fGa, fGs, fGz, Act.put, fSa, fSz, fSs]
 refine wpAnyH_take (i := 35) (v := .pointer (some ⟨gy, 0, none⟩)) rfl (by kernel_rfl) (by kernel_rfl) (by kernel_rfl) (fun _ _ _ h => h) (Or.inl ⟨by rfl, fun w hSw => by obtain ⟨hS1, hS2, hS3, hS4⟩ := hSw; go_simp⟩) (by assumption) ?_
 simp only [fGa, fGs, fGz, Act.put, fSa, fSz, fSs]
 refine wpAnyH_take (i := 36) (v := .pointer (some ⟨gy, 1, none⟩)) rfl (by kernel_rfl) (by kernel_rfl) (by kernel_rfl) (fun _ _ _ h => h) (Or.inl ⟨by rfl, fun w hSw => by obtain ⟨hS1, hS2, hS3, hS4⟩ := hSw; go_simp⟩) (by assumption) ?_
 simp only [fGa, fGs, fGz, Act.put, fSa, fSz, fSs]
 refine wpAnyH_take (i := 37) (v := .pointer (some ⟨gq, 0, none⟩)) rfl (by kernel_rfl) (by kernel_rfl) (by kernel_rfl) (fun _ _ _ h => h) (Or.inl ⟨by rfl, fun w hSw => by obtain ⟨hS1, hS2, hS3, hS4⟩ := hSw; go_simp⟩) (by assumption) ?_
 simp only [fGa, fGs, fGz, Act.put, fSa, fSz, fSs]
 refine wpAnyH_take (i := 38) (v := .pointer (some ⟨gq, 0, none⟩)) rfl (by kernel_rfl) (by kernel_rfl) (by kernel_rfl) (fun _ _ _ h => h) (Or.inl ⟨by rfl, fun w hSw => by obtain ⟨hS1, hS2, hS3, hS4⟩ := hSw; go_simp⟩) (by assumption) ?_
 simp only [fGa, fGs, fGz, Act.put, fSa, fSz, fSs]
 refine wpAnyH_take (i := 39) (v := .pointer (some ⟨gq, 37, none⟩)) rfl (by kernel_rfl) (by kernel_rfl) (by kernel_rfl) (fun _ _ _ h => h) (Or.inl ⟨by rfl, fun w hSw => by obtain ⟨hS1, hS2, hS3, hS4⟩ := hSw; go_simp⟩) (by assumption) ?_
 simp only [fGa, fGs, fGz, Act.put, fSa, fSz, fSs]
 refine wpAnyH_take (i := 40) (v := .slice (na) k nc) rfl (by kernel_rfl) (by kernel_rfl) (by kernel_rfl) (fun _ _ _ h => h) (Or.inl ⟨by rfl, fun w hSw => by obtain ⟨hS1, hS2, hS3, hS4⟩ := hSw; go_simp⟩) (by assumption) ?_
 simp only [fGa, fGs, fGz, Act.put, fSa, fSz, fSs]
 refine wpAnyH_take (i := 41) (v := .int .i64 (k : Int)) rfl (by kernel_rfl) (by kernel_rfl) (by kernel_rfl) (fun _ _ _ h => h) (Or.inl ⟨by rfl, fun w hSw => by obtain ⟨hS1, hS2, hS3, hS4⟩ := hSw; go_simp⟩) (by assumption) ?_
 simp only [fGa, fGs, fGz, Act.put, fSa, fSz, fSs]
 refine wpAnyH_ready (rs := [33]) (by kernel_rfl) (by simp) (AllReadyH.cons rfl (fun K hK => ?_) AllReadyH.nil)
 refine step_call1GC (by rfl) 65 done_enter (.tmp 35) _ rfl rfl (unhide HDN _ hx1) ?_
 rintro e wn ⟨rfl, hwn⟩
 obtain rfl := hwn.symm
 clear hwn
 refine ⟨_, rfl, ?_⟩
 refine hK.out _ _ (unhide HSS _ hx1) (fun hJ5 => ?_)
 clear hK K
 simp only [fGa, fGs, fGz, Act.put, fSa, fSz, fSs]
 refine wpAnyH_take (i := 42) (v := .bool true) rfl (by kernel_rfl) (by kernel_rfl) (by kernel_rfl) (fun _ _ _ h => h) (Or.inl ⟨by rfl, fun w hSw => by obtain ⟨hS1, hS2, hS3, hS4⟩ := hSw; go_simp⟩) (by assumption) ?_
 simp only [fGa, fGs, fGz, Act.put, fSa, fSz, fSs]
 refine wpAnyH_take (i := 43) (v := .bool true) rfl (by kernel_rfl) (by kernel_rfl) (by kernel_rfl) (fun _ _ _ h => h) (Or.inl ⟨by rfl, fun w hSw => by obtain ⟨hS1, hS2, hS3, hS4⟩ := hSw; go_simp⟩) (by assumption) ?_
 simp only [fGa, fGs, fGz, Act.put, fSa, fSz, fSs]
 refine wpAnyH_take (i := 44) (v := .bool true) rfl (by kernel_rfl) (by kernel_rfl) (by kernel_rfl) (fun _ _ _ h => h) (Or.inl ⟨by rfl, fun w hSw => by obtain ⟨hS1, hS2, hS3, hS4⟩ := hSw; go_simp⟩) (by assumption) ?_
 simp only [fGa, fGs, fGz, Act.put, fSa, fSz, fSs]
 refine wpAnyH_take (i := 45) (v := .pointer (some ⟨gy, 0, none⟩)) rfl (by kernel_rfl) (by kernel_rfl) (by kernel_rfl) (fun _ _ _ h => h) (Or.inl ⟨by rfl, fun w hSw => by obtain ⟨hS1, hS2, hS3, hS4⟩ := hSw; go_simp⟩) (by assumption) ?_
 simp only [fGa, fGs, fGz, Act.put, fSa, fSz, fSs]
 refine wpAnyH_take (i := 46) (v := .pointer (some ⟨gy, 0, none⟩)) rfl (by kernel_rfl) (by kernel_rfl) (by kernel_rfl) (fun _ _ _ h => h) (Or.inl ⟨by rfl, fun w hSw => by obtain ⟨hS1, hS2, hS3, hS4⟩ := hSw; go_simp⟩) (by assumption) ?_
 simp only [fGa, fGs, fGz, Act.put, fSa, fSz, fSs]
 refine wpAnyH_take (i := 47) (v := .pointer (some ⟨gy, 0, none⟩)) rfl (by kernel_rfl) (by kernel_rfl) (by kernel_rfl) (fun _ _ _ h => h) (Or.inl ⟨by rfl, fun w hSw => by obtain ⟨hS1, hS2, hS3, hS4⟩ := hSw; go_simp⟩) (by assumption) ?_
 simp only [fGa, fGs, fGz, Act.put, fSa, fSz, fSs]
 refine wpAnyH_take (i := 48) (v := .pointer (some ⟨pr, 0, none⟩)) rfl (by kernel_rfl) (by kernel_rfl) (by kernel_rfl) (fun _ _ _ h => h) (Or.inl ⟨by rfl, fun w hSw => by obtain ⟨hS1, hS2, hS3, hS4⟩ := hSw; go_simp⟩) (by assumption) ?_
 simp only [fGa, fGs, fGz, Act.put, fSa, fSz, fSs]
 refine wpAnyH_take (i := 49) (v := .pointer (some ⟨pr, 0, none⟩)) rfl (by kernel_rfl) (by kernel_rfl) (by kernel_rfl) (fun _ _ _ h => h) (Or.inl ⟨by rfl, fun w hSw => by obtain ⟨hS1, hS2, hS3, hS4⟩ := hSw; go_simp⟩) (by assumption) ?_
 simp only [fGa, fGs, fGz, Act.put, fSa, fSz, fSs]
 refine wpAnyH_take (i := 50) (v := .pointer (some ⟨pr, 0, none⟩)) rfl (by kernel_rfl) (by kernel_rfl) (by kernel_rfl) (fun _ _ _ h => h) (Or.inl ⟨by rfl, fun w hSw => by obtain ⟨hS1, hS2, hS3, hS4⟩ := hSw; go_simp⟩) (by assumption) ?_
 simp only [fGa, fGs, fGz, Act.put, fSa, fSz, fSs]
 refine wpAnyH_take (i := 52) (v := .pointer (some ⟨gy, 0, none⟩)) rfl (by kernel_rfl) (by kernel_rfl) (by kernel_rfl) (fun _ _ _ h => h) (Or.inl ⟨by rfl, fun w hSw => by obtain ⟨hS1, hS2, hS3, hS4⟩ := hSw; go_simp⟩) (by assumption) ?_
 simp only [fGa, fGs, fGz, Act.put, fSa, fSz, fSs]
 refine wpAnyH_take (i := 53) (v := .pointer (some ⟨gy, 0, none⟩)) rfl (by kernel_rfl) (by kernel_rfl) (by kernel_rfl) (fun _ _ _ h => h) (Or.inl ⟨by rfl, fun w hSw => by obtain ⟨hS1, hS2, hS3, hS4⟩ := hSw; go_simp⟩) (by assumption) ?_
 simp only [fGa, fGs, fGz, Act.put, fSa, fSz, fSs]
 refine wpAnyH_take (i := 54) (v := .pointer (some ⟨gy, 1, none⟩)) rfl (by kernel_rfl) (by kernel_rfl) (by kernel_rfl) (fun _ _ _ h => h) (Or.inl ⟨by rfl, fun w hSw => by obtain ⟨hS1, hS2, hS3, hS4⟩ := hSw; go_simp⟩) (by assumption) ?_
 simp only [fGa, fGs, fGz, Act.put, fSa, fSz, fSs]
 refine wpAnyH_take (i := 55) (v := .pointer (some ⟨gq, 0, none⟩)) rfl (by kernel_rfl) (by kernel_rfl) (by kernel_rfl) (fun _ _ _ h => h) (Or.inl ⟨by rfl, fun w hSw => by obtain ⟨hS1, hS2, hS3, hS4⟩ := hSw; go_simp⟩) (by assumption) ?_
 simp only [fGa, fGs, fGz, Act.put, fSa, fSz, fSs]
 refine wpAnyH_take (i := 56) (v := .pointer (some ⟨gq, 0, none⟩)) rfl (by kernel_rfl) (by kernel_rfl) (by kernel_rfl) (fun _ _ _ h => h) (Or.inl ⟨by rfl, fun w hSw => by obtain ⟨hS1, hS2, hS3, hS4⟩ := hSw; go_simp⟩) (by assumption) ?_
 simp only [fGa, fGs, fGz, Act.put, fSa, fSz, fSs]
 refine wpAnyH_take (i := 57) (v := .pointer (some ⟨gq, 37, none⟩)) rfl (by kernel_rfl) (by kernel_rfl) (by kernel_rfl) (fun _ _ _ h => h) (Or.inl ⟨by rfl, fun w hSw => by obtain ⟨hS1, hS2, hS3, hS4⟩ := hSw; go_simp⟩) (by assumption) ?_
 simp only [fGa, fGs, fGz, Act.put, fSa, fSz, fSs]
 refine wpAnyH_take (i := 58) (v := .slice (na) k nc) rfl (by kernel_rfl) (by kernel_rfl) (by kernel_rfl) (fun _ _ _ h => h) (Or.inl ⟨by rfl, fun w hSw => by obtain ⟨hS1, hS2, hS3, hS4⟩ := hSw; go_simp⟩) (by assumption) ?_
 simp only [fGa, fGs, fGz, Act.put, fSa, fSz, fSs]
 refine wpAnyH_ready (rs := [51]) (by kernel_rfl) (by simp) (AllReadyH.cons rfl (fun K hK => ?_) AllReadyH.nil)
 refine step_call1GC (by rfl) 64 nums_enter (.tmp 53) _ rfl rfl (unhide HNM _ hx1) ?_
 rintro e wb ⟨na3, nn3, nc3, rfl, hr3, hbb3⟩
 have hx2 : Below w.heap.size w wb := hx1.trans (hbb3.mono hx1.size)
 refine ⟨_, rfl, ?_⟩
 refine hK.out _ _ (unhide HSS _ hx2) (fun hJ6 => ?_)
 clear hK K
 simp only [fGa, fGs, fGz, Act.put, fSa, fSz, fSs]
 refine wpAnyH_ready (rs := [59]) (by kernel_rfl) (by simp) (AllReadyH.cons rfl (fun K hK => ?_) AllReadyH.nil)
 refine step_call2GC (by rfl) 11 sameInts6_enter (.tmp 54) (.tmp 61) _ rfl rfl rfl (unhide HSI _ hx2 _ hr3) ?_
 rintro e wd ⟨rfl, hbd⟩
 have hx3 : Below w.heap.size w wd := hx2.trans (hbd.mono hx2.size)
 refine ⟨_, rfl, ?_⟩
 refine hK.out _ _ (unhide HSS _ hx3) (fun hJ7 => ?_)
 clear hK K
 simp only [fGa, fGs, fGz, Act.put, fSa, fSz, fSs]
 refine wpAnyH_take (i := 60) (v := .bool true) rfl (by kernel_rfl) (by kernel_rfl) (by kernel_rfl) (fun _ _ _ h => h) (Or.inl ⟨by rfl, fun w hSw => by obtain ⟨hS1, hS2, hS3, hS4⟩ := hSw; go_simp⟩) (by assumption) ?_
 simp only [fGa, fGs, fGz, Act.put, fSa, fSz, fSs]
 refine wpAnyH_take (i := 61) (v := .bool true) rfl (by kernel_rfl) (by kernel_rfl) (by kernel_rfl) (fun _ _ _ h => h) (Or.inl ⟨by rfl, fun w hSw => by obtain ⟨hS1, hS2, hS3, hS4⟩ := hSw; go_simp⟩) (by assumption) ?_
 simp only [fGa, fGs, fGz, Act.put, fSa, fSz, fSs]
 refine wpAnyH_done (by kernel_rfl) ?_ _
 go_wp2
 go_ret
 exact ⟨rfl, hx3⟩
end
end
end Go.Proofs.YtdalbalphagmfaaGreatDoor
