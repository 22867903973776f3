/- WireUnlike's walk. -/
import Derived.Test.YtmfdiicnhfadmabDoorIsb
namespace Go.Proofs.YtmfdiicnhfadmabDoor
open Go.RowKit

set_option maxHeartbeats 400000 in
theorem begins_no {w : World} {va vb : Value} {xs ys : List Int} (ha : IsB w va xs) (hb : IsB w vb ys) (hp : 0 < xs.length) (h : ∀ s, xs ++ s ≠ ys) :
    Calls Tryd.prog 11 #[va, vb] w fun e w' => e = .returned (.bool false) ∧ w' = w := by
  have hla := ha.len
  have ha' := ha
  have hb' := hb
  obtain ⟨_, a1, cap1, rfl, hl1, hm1, _, _⟩ := ha
  obtain ⟨_, a2, cap2, rfl, hl2, hm2, _, hc2⟩ := hb
  by_cases hle : xs.length ≤ ys.length
  · obtain ⟨b, off, rfl, _⟩ := hc2 (by omega)
    have hne : xs ≠ ys.take xs.length := fun e => h (ys.drop xs.length) (by rw [e, List.length_take, Nat.min_eq_left hle, List.take_append_drop])
    have H := hide (same_no ha' (hb'.first hle (by omega)) hne)
    clear hc2 ha' hb' h hne
    generalize xs.length = n1 at *
    generalize ys.length = n2 at *
    go_enter Tryd.func11, Tryd.ntmps11
    go_wp2_with fail
    refine (unhide H).mono ?_
    rintro e w' ⟨rfl, hw'⟩
    go_wp2
    go_ret
    exact ⟨rfl, rfl⟩
  · clear hc2 ha' hb' h
    generalize xs.length = n1 at *
    generalize ys.length = n2 at *
    go_enter Tryd.func11, Tryd.ntmps11
    go_wp2
    go_ret
    exact ⟨rfl, rfl⟩

set_option maxHeartbeats 1000000 in
theorem unlike_walk (V W : Int) {w : World} {va vb : Value} {xs ys : List Int} (hV0 : 0 ≤ V) (hV1 : V < 2 * 128 ^ 9) (hW0 : 0 ≤ W) (hW1 : W < 2 * 128 ^ 9) (ha : IsB w va xs) (hb : IsB w vb ys)
    (hla : xs.length ≤ 140737488351232) (hlb : ys.length ≤ 140737488351232) (ht : Tab w) :
    Calls Tryd.prog 3 #[.int .u64 V, .int .u64 W, va, vb] w fun e w' => e = .returned (.bool true) ∧ Below w.heap.size w w' := by
  have HT := hide ht
  have H1 := hide hV1
  have H2 := hide hW1
  clear ht hV1 hW1
  have hB0 := Below.refl w.heap.size w
  go_enter Tryd.func3, Tryd.ntmps3
  go_wp2_with fail
  refine (uint_isB _ hV0 (unhide H1)).mono ?_
  rintro e w1 ⟨x, rfl, hx, hb1⟩
  go_wp2_with fail
  refine (uint_isB _ hW0 (unhide H2)).mono ?_
  rintro e w2 ⟨y, rfl, hy, hb2⟩
  have hx2 := hx.below hb2
  have hB2 := hb1.trans (hb2.mono hb1.size)
  clear hx hb1 hb2
  by_cases hvw : V = W
  subst hvw
  go_wp2_with fail
  refine (same_yes hx2 hy).mono ?_
  rintro e w3 ⟨rfl, hw3⟩
  obtain rfl := hw3.symm
  clear hw3
  go_wp2_with fail
  rotate_left
  have hne : (V == W) = false := by simp [hvw]
  have hne' : (V != W) = true := by simp [hvw]
  have HNE := hide hvw
  clear hvw
  go_wp2_with fail
  refine (same_no hx2 hy (fun e => unhide HNE (uBytes_prefix (s := []) (t := []) hV0 (unhide H1) hW0 (unhide H2) (by rw [e])))).mono ?_
  rintro e w3 ⟨rfl, hw3⟩
  obtain rfl := hw3.symm
  clear hw3
  go_wp2_with fail
  refine (begins_no hx2 hy (uBytes_pos _) (fun s e => unhide HNE (uBytes_prefix (s := s) (t := []) hV0 (unhide H1) hW0 (unhide H2) (by rw [e, List.append_nil])))).mono ?_
  rintro e w3 ⟨rfl, hw3⟩
  obtain rfl := hw3.symm
  clear hw3
  go_wp2_with fail
  refine (begins_no hy hx2 (uBytes_pos _) (fun s e => unhide HNE (uBytes_prefix (s := []) (t := s) hV0 (unhide H1) hW0 (unhide H2) (by rw [e, List.append_nil])))).mono ?_
  rintro e w3 ⟨rfl, hw3⟩
  obtain rfl := hw3.symm
  clear hw3 hne hne' HNE
  go_wp2_with fail
  all_goals
    clear hx2 hy
    refine (bytes_isB (ha.below hB2) hla).mono ?_
    rintro e w3 ⟨p, rfl, hp, hb3⟩
    have hB3 := hB2.trans (hb3.mono hB2.size)
    clear hb3
    go_wp2_with fail
    refine (bytes_isB (hb.below hB3) hlb).mono ?_
    rintro e w4 ⟨q, rfl, hq, hb4⟩
    have hp4 := hp.below hb4
    have hB4 := hB3.trans (hb4.mono hB3.size)
    clear hp hb4
    go_wp2_with fail
    refine (started_calls _ ((unhide HT).below hB4)).mono ?_
    rintro e w5 ⟨rfl, hs5⟩
    have hp5 := hp4.below hs5
    have hq5 := hq.below hs5
    have hB5 := hB4.trans (hs5.mono hB4.size)
    have ha5 := ha.below hB5
    have hb5 := hb.below hB5
    clear hp4 hq hs5 hB2 hB3 hB4 ha hb HT
    by_cases hxy : xs = ys
    · subst hxy
      go_wp2_with fail
      refine (same_yes ha5 hb5).mono ?_
      rintro e w6 ⟨rfl, hw6⟩
      obtain rfl := hw6.symm
      clear hw6
      go_wp2_with fail
      refine (same_yes hp5 hq5).mono ?_
      rintro e w6 ⟨rfl, hw6⟩
      obtain rfl := hw6.symm
      clear hw6
      go_wp2_with fail
      refine (same_yes ha5 hb5).mono ?_
      rintro e w6 ⟨rfl, hw6⟩
      obtain rfl := hw6.symm
      clear hw6
      go_wp2
      go_ret
      exact ⟨rfl, hB5⟩
    · have HXY := hide hxy
      clear hxy
      go_wp2_with fail
      refine (same_no ha5 hb5 (unhide HXY)).mono ?_
      rintro e w6 ⟨rfl, hw6⟩
      obtain rfl := hw6.symm
      clear hw6
      go_wp2_with fail
      refine (same_no hp5 hq5 (fun e => unhide HXY (bB_prefix (s := []) (t := []) (by omega) (by omega) (by rw [e])))).mono ?_
      rintro e w6 ⟨rfl, hw6⟩
      obtain rfl := hw6.symm
      clear hw6
      go_wp2_with fail
      refine (same_no ha5 hb5 (unhide HXY)).mono ?_
      rintro e w6 ⟨rfl, hw6⟩
      obtain rfl := hw6.symm
      clear hw6
      go_wp2_with fail
      refine (begins_no hp5 hq5 (bB_pos _) (fun s e => unhide HXY (bB_prefix (s := s) (t := []) (by omega) (by omega) (by rw [e, List.append_nil])))).mono ?_
      rintro e w6 ⟨rfl, hw6⟩
      obtain rfl := hw6.symm
      clear hw6
      go_wp2_with fail
      refine (begins_no hq5 hp5 (bB_pos _) (fun s e => unhide HXY (bB_prefix (s := []) (t := s) (by omega) (by omega) (by rw [e, List.append_nil])))).mono ?_
      rintro e w6 ⟨rfl, hw6⟩
      obtain rfl := hw6.symm
      clear hw6
      go_wp2
      go_ret
      exact ⟨rfl, hB5⟩
end Go.Proofs.YtmfdiicnhfadmabDoor
