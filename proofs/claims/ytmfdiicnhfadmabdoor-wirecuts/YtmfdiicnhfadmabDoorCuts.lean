/- WireCuts' walk. -/
import Derived.Test.YtmfdiicnhfadmabDoorWritten
import Derived.Test.YtmfdiicnhfadmabDoorRBytes
namespace Go.Proofs.YtmfdiicnhfadmabDoor
open Go.RowKit

/-- The errors of the three Reads, alone. -/
theorem ruint_e {w : World} {v : Value} {xs : List Int} (h : IsB w v xs) {at_ a b c : Int} (hr : rdU xs at_ = (a, b, c)) :
    Calls Tryd.prog 15 #[v, .int .i64 at_] w fun e w' => e = .returned (.tuple #[.int .u64 a, .int .i64 b, .int .i64 c]) ∧ w' = w := by
  have := ruint_calls h at_
  rwa [hr] at this
theorem rfixed_e {w : World} {v : Value} {xs : List Int} (h : IsB w v xs) {at_ n a b c : Int} (hr : rdF xs at_ n = (a, b, c)) :
    Calls Tryd.prog 17 #[v, .int .i64 at_, .int .i64 n] w fun e w' => e = .returned (.tuple #[.int .u64 a, .int .i64 b, .int .i64 c]) ∧ w' = w := by
  have := rfixed_calls h at_ n
  rwa [hr] at this
theorem rbytes_e {w : World} {v : Value} {xs : List Int} (h : IsB w v xs) (hl : xs.length ≤ 140737488355328) {at_ most b c : Int} {ys : List Int} (hm : most ≤ 9223372036854775807) (hr : rdB xs at_ most = (ys, b, c)) :
    Calls Tryd.prog 18 #[v, .int .i64 at_, .int .i64 most] w fun e w' => ∃ a n cp, e = .returned (.tuple #[.slice a n cp, .int .i64 b, .int .i64 c]) ∧ w'.ownsRow w.heap.size 5 1 (.slice a n cp) ys.length (ys.map (Value.int .u8)) ∧ Below w.heap.size w w' := by
  refine (rbytes_calls h hl at_ most hm).mono ?_
  rintro e w' ⟨u, rfl, hown, hb⟩
  rw [hr] at hown ⊢
  have : ∃ a n cp, u = .slice a n cp := by
    rcases hown.2 with ⟨rfl, _⟩ | ⟨g, cap, cur, rfl, _⟩
    · exact ⟨_, _, _, rfl⟩
    · exact ⟨_, _, _, rfl⟩
  obtain ⟨a, n, cp, rfl⟩ := this
  exact ⟨a, n, cp, rfl, hown, hb⟩

set_option maxRecDepth 100000 in
set_option maxHeartbeats 1000000 in
theorem cuts_walk (V C : Int) {w : World} {vb : Value} {xs : List Int} (h0 : 0 ≤ V) (h1 : V ≤ 18446744073709551615) (hC : -9223372036854775808 ≤ C ∧ C ≤ 9223372036854775807) (hb : IsB w vb xs) (hl : xs.length ≤ 140737488351232) (ht : Tab w) :
    Calls Tryd.prog 4 #[.int .u64 V, vb, .int .i64 C] w fun e w' => e = .returned (.bool true) ∧ Below w.heap.size w w' := by
  have HT := hide ht
  clear ht
  have hb' := hb
  obtain ⟨_, a, cap, rfl, hlc, hm, _, _⟩ := hb
  obtain ⟨m, hm'⟩ : ∃ m, m = xs.length := ⟨_, rfl⟩
  rw [← hm'] at hlc hb' hl ⊢
  have HM := hide hm'
  clear hm'
  go_enter Tryd.func4, Tryd.ntmps4
  go_wp2_with fail
  refine (written_calls V h0 h1 hb' (by rw [← HM.out]; exact hl)).mono ?_
  rintro e w1 ⟨l, es, rfl, hown, hents, hspec, hB1⟩
  have hlen : es.length = 10 := by have := congrArg List.length hspec; rw [List.length_map, wSpec_len] at this; exact this
  rw [hlen] at hown
  obtain ⟨g, cp, rfl, hcp1, hcp2, hg, hcell⟩ := owns_shape hown (by decide)
  have HS := hide hspec
  have HLN := hide hlen
  have HCE := hide hcell
  have HEN := hide hents
  clear hspec hlen hcell hents hown hb'
  have hsz1 := hB1.size
  go_wp2_with fail

  go_loopw [8] (fun i wr => ∃ k : Nat, k ≤ 10 ∧ i = .int .i64 (k : Int) ∧ Below w1.heap.size w1 wr) (fun i _ => 10 - (intOf i).toNat)
  case atStart => exact ⟨0, by omega, rfl, Below.refl _ _⟩
  case round =>
    obtain ⟨k, hk, rfl, hnx⟩ := hrel
    by_cases hlt : k < 10
    · have hki : k < es.length := by rw [HLN.out]; exact hlt
      obtain ⟨E, hE⟩ : ∃ E, E = es[k] := ⟨_, rfl⟩
      have hO := (unhide HEN E (by rw [hE]; exact List.getElem_mem hki)).below hnx
      have hI := hO.isB
      have hc : ∀ f, f < 4 → wr.cell? ⟨g, k * 4 + f, none⟩ = E.cells[f]? := by
        intro f hf
        have h1 := unhide HCE (k * 4 + f) (by omega)
        rw [Nat.mul_comm k 4, entCells_at hki hf, ← hE, Nat.mul_comm 4 k] at h1
        have h2 : ∃ u, E.cells[f]? = some u := ⟨_, List.getElem?_eq_getElem (by simp [Ent.cells]; omega)⟩
        obtain ⟨u, hu⟩ := h2
        rw [hu] at h1 ⊢
        exact (hnx.cell (p := ⟨g, k * 4 + f, none⟩) (World.block_lt_of_cell? w1 _ h1)).trans h1
      have hsort := sort_at HS.out hki
      rw [← hE] at hsort
      obtain ⟨ev, ew, en, evv, eb⟩ := E
      have hc0 := hc 0 (by omega)
      have hc1 := hc 1 (by omega)
      have hc2 := hc 2 (by omega)
      simp only [Ent.cells, Ent.sort, List.getElem?_cons_zero, List.getElem?_cons_succ, Nat.add_zero] at hc0 hc1 hc2 hsort hI
      obtain ⟨ea, el, ec, rfl⟩ := hI.shape
      have hel := hI.lenEq
      have hep : 0 < el := by
        rw [hel]
        rcases hsort with ⟨_, hs⟩ | ⟨_, hs⟩ | ⟨n, hn1, hn8, hs⟩
        · simp only [Prod.mk.injEq] at hs
          rw [hs.2.2.2]
          exact uBytes_pos _
        · simp only [Prod.mk.injEq] at hs
          rw [hs.2.2.2]
          exact bB_pos _
        · simp only [Prod.mk.injEq] at hs
          rw [hs.2.2.2, fB_len]
          exact hn1
      obtain ⟨b2, off2, hea, hlec, hec⟩ : ∃ b off, ea = some ⟨b, off, none⟩ ∧ el ≤ ec ∧ ec ≤ 9223372036854775807 := by
        obtain ⟨_, a', c', hv, hl', hm', _, hc'⟩ := hI
        injection hv with e1 e2 e3
        subst e1 e2 e3
        obtain ⟨b, off, ha, _⟩ := hc' hep
        exact ⟨b, off, ha, hl', hm'⟩
      subst hea
      have hfirst := fun q (hq : q ≤ el) => hI.first hq hep
      have HF := hide hfirst
      have HEL := hide hel
      have HSO := hide hsort
      clear hc hfirst hel hsort hI hO hE
      by_cases hC0 : 0 ≤ C
      · obtain ⟨q, hq⟩ : ∃ q : Nat, C % (el : Int) = (q : Int) := ⟨(C % (el : Int)).toNat, by have := Int.emod_nonneg C (show (el : Int) ≠ 0 by omega); omega⟩
        have hql : q < el := by have := Int.emod_lt_of_pos C (show (0 : Int) < el by omega); omega
        rcases unhide HSO with ⟨-, hs⟩ | ⟨-, hs⟩ | ⟨n, hn1, hn8, hs⟩
        · simp only [Prod.mk.injEq] at hs
          obtain ⟨rfl, rfl, rfl, rfl⟩ := hs
          clear HSO
          go_wp2_with fail
          refine (ruint_e (unhide HF q (by omega)) (rdU_cut h0 (top9 h1) (by rw [← HEL.out]; exact hql))).mono ?_
          rintro e w5 ⟨rfl, hw5⟩
          obtain rfl := hw5.symm
          clear hw5
          go_wp2_with (go_at_call 16; refine (num_calls _ _).mono ?_; rintro e w' ⟨rfl, hw'⟩; obtain rfl := hw'.symm)
          go_roundw
          case rel => exact ⟨k + 1, by omega, by go_num, hnx⟩
          case measure => simp [intOf]; omega
        · simp only [Prod.mk.injEq] at hs
          obtain ⟨rfl, rfl, rfl, rfl⟩ := hs
          clear HSO
          go_wp2_with fail
          have hrb : rdB ((bB xs).take q) 0 (m : Int) = ([], 0, 10) := by rw [HM.out]; exact rdB_cut (by rw [← HM.out]; omega) (by rw [← HEL.out]; exact hql)
          refine (rbytes_e (unhide HF q (by omega)) (by have h9 := bB_len xs; have h8 := HM.out; rw [List.length_take]; omega) (by omega) hrb).mono ?_
          rintro e w5 ⟨a5, n5, c5, rfl, -, hb5⟩
          have hnx5 := hnx.trans (hb5.mono hnx.size)
          clear hrb hb5 hnx
          go_wp2_with (go_at_call 16; refine (num_calls _ _).mono ?_; rintro e w' ⟨rfl, hw'⟩; obtain rfl := hw'.symm)
          go_roundw
          case rel => exact ⟨k + 1, by omega, by go_num, hnx5⟩
          case measure => simp [intOf]; omega
        · simp only [Prod.mk.injEq] at hs
          obtain ⟨rfl, rfl, rfl, rfl⟩ := hs
          clear HSO
          go_wp2_with fail
          refine (rfixed_e (unhide HF q (by omega)) (rdF_cut hn1 hn8 (fB_len _ _) (by have h9 := HEL.out; rw [fB_len] at h9; omega))).mono ?_
          rintro e w5 ⟨rfl, hw5⟩
          obtain rfl := hw5.symm
          clear hw5
          go_wp2_with (go_at_call 16; refine (num_calls _ _).mono ?_; rintro e w' ⟨rfl, hw'⟩; obtain rfl := hw'.symm)
          go_roundw
          case rel => exact ⟨k + 1, by omega, by go_num, hnx⟩
          case measure => simp [intOf]; omega
      · obtain ⟨p, hp, hp0, hpl⟩ : ∃ p : Nat, C.tmod (el : Int) = (p : Int) - (el : Int) ∧ 0 < p ∧ p ≤ el := by
          have e1 : C.tmod (el : Int) = -((-C).tmod (el : Int)) := by rw [Int.neg_tmod, Int.neg_neg]
          have e2 := Int.tmod_nonneg (el : Int) (show 0 ≤ -C by omega)
          have e3 := Int.tmod_lt_of_pos (-C) (show (0 : Int) < el by omega)
          exact ⟨(el - (-C).tmod (el : Int)).toNat, by omega, by omega, by omega⟩
        rcases unhide HSO with ⟨-, hs⟩ | ⟨-, hs⟩ | ⟨n, hn1, hn8, hs⟩
        · simp only [Prod.mk.injEq] at hs
          obtain ⟨rfl, rfl, rfl, rfl⟩ := hs
          clear HSO
          by_cases hpe : p < el
          · go_wp2_with fail
            refine (ruint_e (unhide HF p (by omega)) (rdU_cut h0 (top9 h1) (by rw [← HEL.out]; exact hpe))).mono ?_
            rintro e w5 ⟨rfl, hw5⟩
            obtain rfl := hw5.symm
            clear hw5
            go_wp2_with (go_at_call 16; refine (num_calls _ _).mono ?_; rintro e w' ⟨rfl, hw'⟩; obtain rfl := hw'.symm)
            go_roundw
            case rel => exact ⟨k + 1, by omega, by go_num, hnx⟩
            case measure => simp [intOf]; omega
          · obtain rfl : p = el := by omega
            go_wp2_with fail
            refine (ruint_e (unhide HF 0 (by omega)) (rdU_cut h0 (top9 h1) (by rw [← HEL.out]; exact hep))).mono ?_
            rintro e w5 ⟨rfl, hw5⟩
            obtain rfl := hw5.symm
            clear hw5
            go_wp2_with (go_at_call 16; refine (num_calls _ _).mono ?_; rintro e w' ⟨rfl, hw'⟩; obtain rfl := hw'.symm)
            go_roundw
            case rel => exact ⟨k + 1, by omega, by go_num, hnx⟩
            case measure => simp [intOf]; omega
        · simp only [Prod.mk.injEq] at hs
          obtain ⟨rfl, rfl, rfl, rfl⟩ := hs
          clear HSO
          by_cases hpe : p < el
          · go_wp2_with fail
            have hrb : rdB ((bB xs).take p) 0 (m : Int) = ([], 0, 10) := by rw [HM.out]; exact rdB_cut (by rw [← HM.out]; omega) (by rw [← HEL.out]; exact hpe)
            refine (rbytes_e (unhide HF p (by omega)) (by have h9 := bB_len xs; have h8 := HM.out; rw [List.length_take]; omega) (by omega) hrb).mono ?_
            rintro e w5 ⟨a5, n5, c5, rfl, -, hb5⟩
            have hnx5 := hnx.trans (hb5.mono hnx.size)
            clear hrb hb5 hnx
            go_wp2_with (go_at_call 16; refine (num_calls _ _).mono ?_; rintro e w' ⟨rfl, hw'⟩; obtain rfl := hw'.symm)
            go_roundw
            case rel => exact ⟨k + 1, by omega, by go_num, hnx5⟩
            case measure => simp [intOf]; omega
          · obtain rfl : p = el := by omega
            go_wp2_with fail
            have hrb : rdB ((bB xs).take 0) 0 (m : Int) = ([], 0, 10) := by rw [HM.out]; exact rdB_cut (by rw [← HM.out]; omega) (by rw [← HEL.out]; exact hep)
            refine (rbytes_e (unhide HF 0 (by omega)) (by have h9 := bB_len xs; have h8 := HM.out; rw [List.length_take]; omega) (by omega) hrb).mono ?_
            rintro e w5 ⟨a5, n5, c5, rfl, -, hb5⟩
            have hnx5 := hnx.trans (hb5.mono hnx.size)
            clear hrb hb5 hnx
            go_wp2_with (go_at_call 16; refine (num_calls _ _).mono ?_; rintro e w' ⟨rfl, hw'⟩; obtain rfl := hw'.symm)
            go_roundw
            case rel => exact ⟨k + 1, by omega, by go_num, hnx5⟩
            case measure => simp [intOf]; omega
        · simp only [Prod.mk.injEq] at hs
          obtain ⟨rfl, rfl, rfl, rfl⟩ := hs
          clear HSO
          by_cases hpe : p < el
          · go_wp2_with fail
            refine (rfixed_e (unhide HF p (by omega)) (rdF_cut hn1 hn8 (fB_len _ _) (by have h9 := HEL.out; rw [fB_len] at h9; omega))).mono ?_
            rintro e w5 ⟨rfl, hw5⟩
            obtain rfl := hw5.symm
            clear hw5
            go_wp2_with (go_at_call 16; refine (num_calls _ _).mono ?_; rintro e w' ⟨rfl, hw'⟩; obtain rfl := hw'.symm)
            go_roundw
            case rel => exact ⟨k + 1, by omega, by go_num, hnx⟩
            case measure => simp [intOf]; omega
          · obtain rfl : p = el := by omega
            go_wp2_with fail
            refine (rfixed_e (unhide HF 0 (by omega)) (rdF_cut hn1 hn8 (fB_len _ _) (by have h9 := HEL.out; rw [fB_len] at h9; omega))).mono ?_
            rintro e w5 ⟨rfl, hw5⟩
            obtain rfl := hw5.symm
            clear hw5
            go_wp2_with (go_at_call 16; refine (num_calls _ _).mono ?_; rintro e w' ⟨rfl, hw'⟩; obtain rfl := hw'.symm)
            go_roundw
            case rel => exact ⟨k + 1, by omega, by go_num, hnx⟩
            case measure => simp [intOf]; omega
    · go_wp2_with fail
      have hB := hB1.trans (hnx.mono hsz1)
      refine (started_calls _ ((unhide HT).below hB)).mono ?_
      rintro e w5 ⟨rfl, hb5⟩
      go_wp2
      go_ret
      exact ⟨rfl, hB.trans (hb5.mono hB.size)⟩
end Go.Proofs.YtmfdiicnhfadmabDoor
