/- sound: the program's, and the document's. -/
import Derived.Test.YtpklbchbldipnabDoorNB
namespace Go.Proofs.YtpklbchbldipnabDoor
open Go.RowKit Go.Maps

theorem new_cell (w : World) (cs : List Value) (j : Nat) (v : Value) (t : TypeId) (h : cs[j]? = some v) : (w.alloc (.cells cs.toArray t)).cell? ⟨w.heap.size, j, none⟩ = some v := by
  rw [cell_of_row _ _ j _ _ _ (heap_alloc_new w _)]
  simpa using h
/-- What sound is asked, in cases. -/
def SndC (e : Ent) (q : Bool) : Prop :=
  (e.fi < 0 ∧ q = false) ∨ (¬ e.fi < 0 ∧ 65536 ≤ e.fi ∧ q = false) ∨ (¬ e.fi < 0 ∧ ¬ 65536 ≤ e.fi ∧ e.ln < 0 ∧ q = false)
    ∨ (¬ e.fi < 0 ∧ ¬ 65536 ≤ e.fi ∧ ¬ e.ln < 0 ∧ e.dir = true ∧ q = decide (e.ln ≤ 1048576)) ∨ (¬ e.fi < 0 ∧ ¬ 65536 ≤ e.fi ∧ ¬ e.ln < 0 ∧ e.dir = false ∧ ¬ e.ln ≤ 262144 ∧ q = false)
    ∨ (¬ e.fi < 0 ∧ ¬ 65536 ≤ e.fi ∧ ¬ e.ln < 0 ∧ e.dir = false ∧ e.ln ≤ 262144 ∧ q = decide (e.key = e.hash))
theorem sndC (e : Ent) : SndC e (sndE e) := by
  have HS : sndE e = (decide (0 ≤ e.fi ∧ e.fi ≤ 65535 ∧ 0 ≤ e.ln ∧ e.ln ≤ (if e.dir then 1048576 else 262144)) && (e.dir || decide (e.key = e.hash))) := rfl
  by_cases j1 : e.fi < 0
  · exact Or.inl ⟨j1, (by rw [HS, decide_eq_false (by omega)]; rfl)⟩
  by_cases j2 : 65536 ≤ e.fi
  · exact Or.inr (Or.inl ⟨j1, j2, (by rw [HS, decide_eq_false (by omega)]; rfl)⟩)
  by_cases j3 : e.ln < 0
  · exact Or.inr (Or.inr (Or.inl ⟨j1, j2, j3, (by rw [HS, decide_eq_false (by omega)]; rfl)⟩))
  cases hd : e.dir with
  | true =>
    refine Or.inr (Or.inr (Or.inr (Or.inl ⟨j1, j2, j3, hd, ?_⟩)))
    rw [HS, hd]
    simp only [if_true, Bool.true_or, Bool.and_true]
    exact decide_eq_decide.2 (by omega)
  | false =>
    by_cases j4 : e.ln ≤ 262144
    · refine Or.inr (Or.inr (Or.inr (Or.inr (Or.inr ⟨j1, j2, j3, hd, j4, ?_⟩))))
      rw [HS, hd, decide_eq_true (by simp only [Bool.false_eq_true, if_false]; omega)]
      rfl
    · refine Or.inr (Or.inr (Or.inr (Or.inr (Or.inl ⟨j1, j2, j3, hd, j4, ?_⟩))))
      rw [HS, hd, decide_eq_false (by simp only [Bool.false_eq_true, if_false]; omega)]
      rfl
set_option maxRecDepth 100000 in
set_option maxHeartbeats 4000000 in
theorem sound_calls {e : Ent} (h : EntOk e) (w : World) : Calls Tryd.prog 35 #[.agg (enV e).toArray] w fun r w' => r = .returned (.bool (sndE e)) ∧ Below w.heap.size w w' := by
  have m66 := new_cell w (enV e) 66 _ 38 (enV_fi h).1
  have m67 := new_cell w (enV e) 67 _ 38 (enV_fi h).2
  have m1 := new_cell w (enV e) 1 (.bool e.dir) 38 rfl
  have HK : Hid ((w.alloc (.cells (enV e).toArray 38)).rangeAt w.heap.size 2 (e.key.map (Value.int .u8))) := range_part (k := 2) (o := 0) (new_range w _ _) (enV_key e)
  have HH : Hid ((w.alloc (.cells (enV e).toArray 38)).rangeAt w.heap.size 34 (e.hash.map (Value.int .u8))) := range_part (k := 34) (o := 0) (new_range w _ _) (enV_hash h)
  have hb := (Below.refl w.heap.size w).alloc (Nat.le_refl _) (.cells (enV e).toArray 38)
  have HIK := hide (infoKof h.key.1)
  have HIH := hide (infoKof h.hash.1)
  have hke := key_eql e.key e.hash h.key.1 h.hash.1
  have hkg := key_guard
  have hc := sndC e
  generalize (enV e).toArray = cs at *
  generalize e.key.map (Value.int .u8) = kv at *
  generalize e.hash.map (Value.int .u8) = hv at *
  generalize sndE e = r at *
  obtain ⟨j1, hq⟩ | ⟨j1, j2, hq⟩ | ⟨j1, j2, j3, hq⟩ | ⟨j1, j2, j3, hd, hq⟩ | ⟨j1, j2, j3, hd, j4, hq⟩ | ⟨j1, j2, j3, hd, j4, hq⟩ := hc
  all_goals (try rw [hd] at m1)
  all_goals (have HQ := hide hq; clear hq)
  all_goals (try (have HD := hide hd; clear hd))
  all_goals generalize e.fi = fi at *
  all_goals generalize e.ln = ln at *
  all_goals generalize decide (e.key = e.hash) = kh at *
  · go_enter Tryd.func35, Tryd.ntmps35
    go_wp2
    go_ret
    exact ⟨by rw [HQ.out]; rfl, hb⟩
  · go_enter Tryd.func35, Tryd.ntmps35
    go_wp2
    go_ret
    exact ⟨by rw [HQ.out]; rfl, hb⟩
  · go_enter Tryd.func35, Tryd.ntmps35
    go_wp2
    go_ret
    exact ⟨by rw [HQ.out]; rfl, hb⟩
  · go_enter Tryd.func35, Tryd.ntmps35
    go_wp2
    go_ret
    exact ⟨by rw [HQ.out]; rfl, hb⟩
  · go_enter Tryd.func35, Tryd.ntmps35
    go_wp2
    go_ret
    exact ⟨by rw [HQ.out]; rfl, hb⟩
  · go_enter Tryd.func35, Tryd.ntmps35
    go_wp2_with (first
      | (refine wpList_load_on rfl 32 (.tmp 30) rfl w.heap.size 2 rfl kv _ HK.out Tryd.underlying32 rfl HIK.out ?_)
      | (refine wpList_load_on rfl 32 (.tmp 33) rfl w.heap.size 34 rfl hv _ HH.out Tryd.underlying32 rfl HIH.out ?_))
    go_ret
    exact ⟨by rw [HQ.out]; rfl, hb⟩
set_option maxRecDepth 100000 in
set_option maxHeartbeats 4000000 in
theorem rsound_calls {e : Ent} (h : EntOk e) (w : World) : Calls Tryd.prog 62 #[.agg (enV e).toArray] w fun r w' => r = .returned (.bool (sndE e)) ∧ Below w.heap.size w w' := by
  have m66 := new_cell w (enV e) 66 _ 38 (enV_fi h).1
  have m67 := new_cell w (enV e) 67 _ 38 (enV_fi h).2
  have m1 := new_cell w (enV e) 1 (.bool e.dir) 38 rfl
  have HK : Hid ((w.alloc (.cells (enV e).toArray 38)).rangeAt w.heap.size 2 (e.key.map (Value.int .u8))) := range_part (k := 2) (o := 0) (new_range w _ _) (enV_key e)
  have HH : Hid ((w.alloc (.cells (enV e).toArray 38)).rangeAt w.heap.size 34 (e.hash.map (Value.int .u8))) := range_part (k := 34) (o := 0) (new_range w _ _) (enV_hash h)
  have hb := (Below.refl w.heap.size w).alloc (Nat.le_refl _) (.cells (enV e).toArray 38)
  have HIK := hide (infoKof h.key.1)
  have HIH := hide (infoKof h.hash.1)
  have hke := key_eql e.key e.hash h.key.1 h.hash.1
  have hkg := key_guard
  have hc := sndC e
  generalize (enV e).toArray = cs at *
  generalize e.key.map (Value.int .u8) = kv at *
  generalize e.hash.map (Value.int .u8) = hv at *
  generalize sndE e = r at *
  generalize hdr : e.dir = dr at *
  obtain ⟨j1, hq⟩ | ⟨j1, j2, hq⟩ | ⟨j1, j2, j3, hq⟩ | ⟨j1, j2, j3, hd, hq⟩ | ⟨j1, j2, j3, hd, j4, hq⟩ | ⟨j1, j2, j3, hd, j4, hq⟩ := hc
  all_goals (try (rw [hdr] at hd; subst hd))
  all_goals clear hdr
  all_goals (have HQ := hide hq; clear hq)
  all_goals generalize e.fi = fi at *
  all_goals generalize e.ln = ln at *
  all_goals generalize decide (e.key = e.hash) = kh at *
  · cases dr
    all_goals (
      go_enter Tryd.func62, Tryd.ntmps62
      go_wp2
      go_ret
      exact ⟨by rw [HQ.out]; rfl, hb⟩)
  · have j2' : 65535 < fi := by omega
    cases dr
    all_goals (
      go_enter Tryd.func62, Tryd.ntmps62
      go_wp2
      go_ret
      exact ⟨by rw [HQ.out]; rfl, hb⟩)
  · have j2' : ¬ 65535 < fi := by omega
    cases dr
    all_goals (
      go_enter Tryd.func62, Tryd.ntmps62
      go_wp2
      go_ret
      exact ⟨by rw [HQ.out]; rfl, hb⟩)
  · have j2' : ¬ 65535 < fi := by omega
    by_cases j4 : ln ≤ 1048576
    · have j4' : ¬ 1048576 < ln := by omega
      go_enter Tryd.func62, Tryd.ntmps62
      go_wp2
      go_ret
      exact ⟨by rw [HQ.out, decide_eq_true (by omega)]; rfl, hb⟩
    · have j4' : 1048576 < ln := by omega
      go_enter Tryd.func62, Tryd.ntmps62
      go_wp2
      go_ret
      exact ⟨by rw [HQ.out, decide_eq_false (by omega)]; rfl, hb⟩
  · have j2' : ¬ 65535 < fi := by omega
    have j4' : 262144 < ln := by omega
    go_enter Tryd.func62, Tryd.ntmps62
    go_wp2
    go_ret
    exact ⟨by rw [HQ.out]; rfl, hb⟩
  · have j2' : ¬ 65535 < fi := by omega
    have j4' : ¬ 262144 < ln := by omega
    go_enter Tryd.func62, Tryd.ntmps62
    go_wp2_with (first
      | (refine wpList_load_on rfl 32 (.tmp 32) rfl w.heap.size 2 rfl kv _ HK.out Tryd.underlying32 rfl HIK.out ?_)
      | (refine wpList_load_on rfl 32 (.tmp 35) rfl w.heap.size 34 rfl hv _ HH.out Tryd.underlying32 rfl HIH.out ?_))
    go_ret
    exact ⟨by rw [HQ.out]; rfl, hb⟩
end Go.Proofs.YtpklbchbldipnabDoor
