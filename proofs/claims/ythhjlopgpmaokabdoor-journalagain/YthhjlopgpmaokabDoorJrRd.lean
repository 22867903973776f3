/- Summed; what JournalReads answers. -/
import Derived.Test.YthhjlopgpmaokabDoorJrTo
namespace Go.Proofs.YthhjlopgpmaokabDoor
open Go.RowKit Go.Maps

theorem decR_ok {b : List Int} (hb : By8 b) : (decR b).Ok := by
  cases h : decO b with
  | none => rw [(decR_none h).1]; exact JR.nul_ok
  | some r => rw [(decR_some h).1]; exact dec_ok hb h
theorem jsum_in {ys : List Int} (hb : By8 ys) : 0 ≤ sumOf [ys] ∧ sumOf [ys] < 4294967296 := by
  have h1 : crcAll 4294967295 [ys] < 2 ^ 32 := crcAll_lt (by decide) (fun zs hzs => by rw [List.mem_singleton.1 hzs]; exact hb)
  have h2 := Nat.xor_lt_two_pow (n := 32) (x := 4294967295) (by decide) h1
  unfold sumOf
  generalize 4294967295 ^^^ crcAll 4294967295 [ys] = z at h2 ⊢
  omega
set_option maxRecDepth 100000 in
set_option maxHeartbeats 4000000 in
/-- Summed, of a text of 512 bytes: some text of 512 bytes. -/
theorem summed_calls {w : World} {a : Option Addr} {cap : Nat} {xs : List Int} (h : IsB w (.slice a 512 cap) xs) :
    Calls Tryd.prog 35 #[.slice a 512 cap] w fun e w' => ∃ u ys, e = .returned u ∧ Own8 w' w.heap.size u ys ∧ ys.length = 512 ∧ Below w.heap.size w w' := by
  have hlx : xs.length = 512 := by have := h.lenEq; omega
  have hi := h.cut (k := 508) (by decide)
  have hr := h.room
  obtain ⟨ad, had⟩ : ∃ ad, a = some ad := by
    obtain ⟨_, a', cp', hv, _, _, _, hc⟩ := h
    obtain ⟨b, off, ha, _⟩ := hc (by omega)
    injection hv with e1
    exact ⟨_, e1.trans ha⟩
  subst had
  have hkc : (508 : Int) ≤ (cap : Int) := by omega
  have HI := hide hi
  have hln : ([] : List Int).length + (xs.take 508).length ≤ 140737488355328 := by rw [List.length_take, hlx]; decide
  have hlt : (xs.take 508).length = 508 := by rw [List.length_take, hlx]; decide
  have HN := hide (Own8.nil w w.heap.size)
  have HL := hide hlt
  generalize xs.take 508 = ys at *
  clear h hi hlt
  go_enter Tryd.func35, Tryd.ntmps35
  go_wp2_with (first
    | (at_builtin; refine wpList_appB rfl (.const (.slice none 0 0)) (.tmp 5) rfl rfl HN.out rfl HI.out hln (Nat.le_refl _) ?_; intro v1 w1 ho1 hg1
       have hE1 : E8 w w1 w.heap.size v1 ys := ⟨ho1, hg1.size, (Below.refl _ _).grown hg1 (Nat.le_refl _) (fun b hb => by cases hb)⟩
       obtain ⟨a1, n1, c1, rfl⟩ := ho1.shape
       have HE1 := hide hE1
       clear ho1 hg1 hE1)
    | fail)
  have hsm := jsum_in (isB_by HE1.out.1.isB)
  have HCR := hide (rcrc_calls HE1.out.1.isB)
  have hws : IntKind.i64.wrap (sumOf [ys]) = sumOf [ys] := IntWalk.i64_in _ (by omega)
  generalize sumOf [ys] = sm at *
  obtain ⟨hs0, hs1⟩ := hsm
  go_wp2_with fail
  refine (unhide HCR).mono ?_
  rintro e w4 ⟨rfl, hw4⟩
  obtain rfl := hw4.symm
  clear hw4 HCR
  go_wp2_with fail
  refine (rfixE (n := 4) HE1.out hs0 (by omega) (by decide) (by decide) (by have := HL.out; omega)).mono ?_
  rintro e w5 ⟨v5, rfl, hE5⟩
  obtain ⟨a5, n5, c5, rfl⟩ := hE5.1.shape
  have HE5 := hide hE5
  clear hE5 HE1
  go_wp2
  go_ret
  exact ⟨_, _, rfl, HE5.out.1, (by rw [List.length_append, HL.out, fB_len]), HE5.out.2.2⟩
end Go.Proofs.YthhjlopgpmaokabDoor
