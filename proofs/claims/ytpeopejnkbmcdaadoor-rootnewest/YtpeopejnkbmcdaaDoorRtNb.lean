/- A crash of a disk's scene; what writes answers. -/
import Derived.Test.YtpeopejnkbmcdaaDoorRtNp
import Derived.Test.YtpeopejnkbmcdaaDoorKL
import Derived.Test.YtpeopejnkbmcdaaDoorInts
namespace Go.Proofs.YtpeopejnkbmcdaaDoor
open Go.RowKit Go.Maps

/-- A crash. -/
theorem sn_crash {w0 W : World} {p : Nat} {D : AD} {v : Value} {xs : List Int} (h : Sn w0 W p D) (hwl : ∀ i, (D.wr i).length ≤ 68719476736) (hi : IsI W v xs) (hlo : ∀ b, Value.inBlock v b → b < w0.heap.size) :
    Calls Tryd.prog 9 #[.pointer (some ⟨p, 0, none⟩), v] W fun e w' => e = .returned (.tuple #[]) ∧ Sn w0 w' p (D.settle fun k => xs.getD k 0) ∧ Cj TDk W w' := by
  obtain ⟨gl, gm, V, h1, h2, h3⟩ := h
  refine (crash_calls h1 hwl hi (fun b hb e => ?_)).mono ?_
  · have := hlo b hb
    have := h2 gl (Or.inr (Or.inl rfl))
    omega
  rintro e w' ⟨rfl, gm', q1, q2, q3⟩
  have hlo' : ∀ b, b = p ∨ b = gl → w0.heap.size ≤ b := fun b hb => h2 b (hb.imp_right Or.inl)
  refine ⟨rfl, ⟨gl, gm', _, q2, fun b hb => ?_, h3.trans (q3.below h3.size hlo')⟩, Cj.of_up h1 q3 (fun b hb => hb.imp_right Or.inl)⟩
  rcases hb with rfl | rfl | rfl | ⟨i, e⟩
  · exact hlo' _ (Or.inl rfl)
  · exact hlo' _ (Or.inr rfl)
  · exact Nat.le_trans h3.size q1
  · cases e
/-- A disk behind so many Steps. -/
def stD (D : AD) (i : Nat) (b : List Int) : Nat → AD
  | 0 => D
  | 1 => D.write i b
  | _ + 2 => (D.write i b).flush
def stN (k : Nat) : Int := if k = 0 then 0 else if k = 1 then 1 else 2
theorem wstep_all {w0 w : World} {p : Nat} {D : AD} {pw i k : Nat} {s : SL} (hs : s.Ok) (hm : s.May) (ht : Tab w0) (hi : s.t % 2 = (i : Int)) (hil : i < D.la.length) (hw0 : 0 ≤ D.wt) (hw1 : D.wt ≤ 1000000000) (hwl : ∀ i, (D.wr i).length ≤ 1000000000) (hf0 : 0 ≤ D.fl) (hf1 : D.fl ≤ 1000000000)
    (h : Rw w0 w p (stD D i (slL s) k) pw s (stN k)) :
    Calls Tryd.prog 17 #[.pointer (some ⟨pw, 0, none⟩)] w fun e w' => e = .returned (.tuple #[.bool (decide (0 < k)), .int .i64 0]) ∧ Rw w0 w' p (stD D i (slL s) (k + 1)) pw s (stN (k + 1)) ∧ Cj TWr w w' := by
  match k, h with
  | 0, h => exact wstep_zero hs hm ht h hi hil hw0 (by omega) (by have := hwl i; omega)
  | 1, h =>
    refine wstep_one hs h (fun j => ?_) hf0 (by show D.fl ≤ _; omega)
    show (updF D.wr i (D.wr i ++ [slL s]) j).length ≤ _
    unfold updF
    split
    · rw [List.length_append, List.length_singleton]; have := hwl i; omega
    · have := hwl j; omega
  | k + 2, h =>
    refine (wstep_two hs h).mono ?_
    rintro e w' ⟨rfl, rfl⟩
    exact ⟨by simp, h, Cj.refl _ _⟩
set_option maxRecDepth 100000 in
set_option maxHeartbeats 2000000 in
theorem writes_calls {w0 w : World} {p : Nat} {D : AD} {i c : Nat} {s : SL} (hs : s.Ok) (hm : s.May) (ht : Tab w0) (hS : Sn w0 w p D) (hsc : s.sc = (D.la.length : Int)) (hi : s.t % 2 = (i : Int)) (hil : i < D.la.length) (hw0 : 0 ≤ D.wt) (hw1 : D.wt ≤ 1000000000) (hwl : ∀ i, (D.wr i).length ≤ 1000000000) (hf0 : 0 ≤ D.fl) (hf1 : D.fl ≤ 1000000000) (hc : c ≤ 3) :
    Calls Tryd.prog 7 #[.pointer (some ⟨p, 0, none⟩), .agg (slV s).toArray, .int .i64 (c : Int)] w fun e w' => e = .returned (.bool true) ∧ Sn w0 w' p (stD D i (slL s) c) ∧ Cj TWr w w' := by
  have hinf := infoSof hs
  have HNW : Hid (∀ W, Sn w0 W p D → Calls Tryd.prog 16 #[.pointer (some ⟨p, 0, none⟩), .agg (slV s).toArray] W fun e w' => ∃ pw, e = .returned (.tuple #[.pointer (some ⟨pw, 0, none⟩), .int .i64 0]) ∧ Rw w0 w' p (stD D i (slL s) 0) pw s (stN 0) ∧ Below W.heap.size W w') := hide (fun W hW => (newW_calls hW hs).mono fun e w' ⟨h1, h2⟩ => by
    rcases h1 with ⟨h1, _⟩ | ⟨_, _, pw, rfl, hlo, hA⟩
    · exact absurd ⟨hm, hsc⟩ h1
    · exact ⟨pw, rfl, ⟨hW.below h2, hA, Nat.le_trans hW.be.size hlo⟩, h2⟩)
  have HST : Hid (∀ W pw k, Rw w0 W p (stD D i (slL s) k) pw s (stN k) → Calls Tryd.prog 17 #[.pointer (some ⟨pw, 0, none⟩)] W fun e w' => e = .returned (.tuple #[.bool (decide (0 < k)), .int .i64 0]) ∧ Rw w0 w' p (stD D i (slL s) (k + 1)) pw s (stN (k + 1)) ∧ Cj TWr W w') := hide (fun W pw k h => wstep_all hs hm ht hi hil hw0 hw1 hwl hf0 hf1 h)
  have HS := hide hS
  generalize slV s = cs1 at *
  clear hs hm ht hS hsc hi hil hw0 hw1 hwl hf0 hf1
  go_enter Tryd.func7, Tryd.ntmps7
  go_wp2_with (first
    | (refine wpList_boxJ rfl 32 (.tmp 1) rfl rfl ?_; intro w1 hA1 hb1 hs1
       have hrg := hA1.rangeJ
       have HB1 := hide hb1
       clear hA1 hb1 hs1)
    | (refine wpList_loadJ rfl 32 (.tmp 4) rfl _ 0 rfl cs1 _ hrg Tryd.underlying32 rfl hinf ?_)
    | fail)
  refine (unhide HNW _ (HS.out.below HB1.out)).mono ?_
  rintro e w2 ⟨pw, rfl, hR2, hb2⟩
  have HR2 := hide hR2
  have HC2 := hide (Cj.of_below (T := TWr) (below_then HB1.out hb2))
  clear hR2 hb2 hrg HNW
  go_wp2
  go_loopw [9] (fun iv W => ∃ (k : Nat), k ≤ c ∧ iv = .int .i64 (k : Int) ∧ Hid (Rw w0 W p (stD D i (slL s) k) pw s (stN k) ∧ Cj TWr w W)) (fun iv _ => c - (intOf iv).toNat)
  case atStart => exact ⟨0, by omega, rfl, hide ⟨HR2.out, HC2.out⟩⟩
  case round =>
    obtain ⟨k, hk, rfl, HK⟩ := hrel
    by_cases hlt : k < c
    · have hltI : (k : Int) < (c : Int) := by omega
      have hdd : decide ((0 : Int) < (k : Int)) = decide (0 < k) := by simp
      go_wp2_with fail
      refine (unhide HST _ _ _ HK.out.1).mono ?_
      rintro e w3 ⟨rfl, hR3, hC3⟩
      have HR3 := hide (And.intro hR3 (HK.out.2.trans hC3))
      clear hR3 hC3 HK
      go_wp2
      go_roundw
      case rel => exact ⟨k + 1, by omega, by go_num, HR3⟩
      case measure => simp [intOf]; omega
    · have hltI : decide ((k : Int) < (c : Int)) = false := by simp; omega
      go_wp2
      go_ret
      obtain rfl : k = c := by omega
      exact ⟨rfl, HK.out.1.sn, HK.out.2⟩
end Go.Proofs.YtpeopejnkbmcdaaDoor
