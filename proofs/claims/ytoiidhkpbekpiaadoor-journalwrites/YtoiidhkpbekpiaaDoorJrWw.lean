/- What JournalWrites answers. -/
import Derived.Test.YtoiidhkpbekpiaaDoorJrWr
namespace Go.Proofs.YtoiidhkpbekpiaaDoor
open Go.RowKit Go.Maps

set_option maxRecDepth 100000 in
set_option maxHeartbeats 16000000 in
theorem journalWrites_walk {w : World} {r : JR} {va : Option Addr} {n cap : Nat} (hr : r.Ok) (hv : IsJ w (.slice va n cap) r.rs) (ht : Tab w) :
    Calls Tryd.prog 3 #[.agg (jrV r (.slice va n cap)).toArray] w fun e w' => e = .returned (.bool true) ∧ Below w.heap.size w w' := by
  have HT : Hid (∀ W, Below w.heap.size w W → Tab W) := hide (fun W hW => ht.below hW)
  have HV : Hid (∀ W, Below w.heap.size w W → IsJ W (.slice va n cap) r.rs) := hide (fun W hW => hv.below hW)
  obtain ⟨q, hq⟩ : ∃ q : JR, q = ⟨r.n, r.p, r.rs.take 12⟩ := ⟨_, rfl⟩
  have hqo : q.Ok := by rw [hq]; exact ⟨hr.len, hr.by8, hr.num, fun x hx => hr.refs x (List.mem_of_mem_take hx)⟩
  have HQ : Hid (∀ u, jrV r u = jrV q u) := hide (fun u => by rw [hq]; rfl)
  have HQR : Hid (q.rs = r.rs.take 12) := hide (by rw [hq])
  have HQO := hide hqo
  have HRL := hide hr.len
  have hTO := fun W (hW : Below w.heap.size w W) => jtold_calls (ht.below hW)
  have HTO : Hid (∀ W, Below w.heap.size w W → Calls Tryd.prog 8 #[] W fun e w' => e = .returned (.bool true) ∧ Below W.heap.size W w') := hide hTO
  clear hr hv ht hq hqo hTO
  go_enter Tryd.func3, Tryd.ntmps3
  go_wp2_with (first
    | (refine wpList_boxJ rfl 26 (.tmp 0) rfl rfl ?_; intro w1 hA1 hb1 hs1
       have HA1 := hide hA1
       have HB1 := hide hb1
       have HS1 := hide hs1
       clear hA1 hb1 hs1)
    | fail)
  refine (unhide HTO _ HB1.out).mono ?_
  rintro e w2 ⟨rfl, hb2⟩
  have hA2 := HA1.out.below hb2
  have c33 : w2.cell? ⟨w.heap.size, 33, none⟩ = some (.slice va n cap) := (hA2.cell 33).trans (jrV_v HRL.out _)
  have f33 := hA2.frozen 33
  have HB2 := hide (below_then HB1.out hb2)
  have HCR := hide (cutrefs_calls (unhide HV _ HB2.out))
  have HA2 := hide hA2
  have HS2 : Hid (w.heap.size < w2.heap.size) := hide (by have h1 := HS1.out; have h2 := hb2.size; omega)
  clear hA2 hb2 HA1 HB1 HTO HS1
  go_wp2_with fail
  refine (unhide HCR).mono ?_
  rintro e w3 ⟨⟨m, rfl, hmn, hJm⟩, hw3⟩
  obtain rfl := hw3.symm
  have HM12 : Hid (m ≤ 12) := hide (by omega)
  have HJ : Hid (∀ W, Below w.heap.size w W → IsJ W (.slice va m cap) q.rs) := hide (fun W hW => by
    have h1 := unhide HV _ hW
    have h2 := h1.lenEq
    rw [HQR.out, show r.rs.take 12 = r.rs.take m by rcases hJm with rfl | ⟨rfl, h3⟩; rfl; rw [List.take_of_length_le (by omega), List.take_of_length_le (by omega)]]
    exact h1.cut hmn)
  clear hw3 hJm hmn HCR HV HQR
  have hA3 : Arr (w2.setCell ⟨w.heap.size, 33, none⟩ (.slice va m cap)) w.heap.size 26 (jrV q (.slice va m cap)) := by
    have := HA2.out.set 33 (.slice va m cap)
    rw [jrV_set HRL.out, HQ.out] at this
    exact this
  have HB3 : Hid (Below w.heap.size w (w2.setCell ⟨w.heap.size, 33, none⟩ (.slice va m cap))) := hide (HB2.out.setCell (Nat.le_refl _) _)
  have HS3 : Hid (w.heap.size < (w2.setCell ⟨w.heap.size, 33, none⟩ (.slice va m cap)).heap.size) := hide (by have := (grown_set w2 w.heap.size 33 (.slice va m cap)).size; exact Nat.lt_of_lt_of_le HS2.out this)
  have hr3 := hA3.rangeJ
  have hi3 := fun u => infoRof HQO.out.len u
  have hl3 := fun u => (show z34R.length = (jrV q u).length by rw [jrV_len HQO.out.len]; decide)
  have HA3 := hide hA3
  have HLA : Hid (∀ W, Below w.heap.size w W → Calls Tryd.prog 10 #[.slice va m cap] W fun e w' => ∃ g c, e = .returned (.slice (some ⟨g, 0, none⟩) m c) ∧ LaidJ w' W.heap.size g m c q.rs ∧ Below W.heap.size W w') := hide (fun W hW => laid17_calls (unhide HJ _ hW) HM12.out)
  clear hA3
  go_wp2_with (first
    | (generalize hw3 : w2.setCell ⟨w.heap.size, 33, none⟩ (.slice va m cap) = w3 at *
       clear hw3
       refine wpList_loadJ rfl 26 (.tmp 1) rfl _ 0 rfl _ _ hr3 Tryd.underlying26 rfl (hi3 _) ?_
       have hA4 := Arr.new w3 z34R 26
       have hba4 := jalloc_below w3 (.cells z34R.toArray 26)
       have HST4 : Hid (∀ W, (w3.alloc (.cells z34R.toArray 26)).grownBy W (some w3.heap.size) → Below w3.heap.size w3 W) := hide (fun W hg => jbelow_grown hba4 hg hba4.size (Nat.le_refl _))
       clear hba4 c33 f33 hr3)
    | (refine wpList_allocJ rfl 26 rfl infoR ?_)
    | (refine wpList_storeJ rfl (.tmp 3) (.tmp 14) 26 rfl rfl rfl hA4 (hi3 _) (hl3 _) (jrV_one q rfl) ?_; intro w4 hB4 hg4
       have hb4 := unhide HST4 w4 hg4
       have HB4 := hide (below_then HB3.out hb4)
       have HX4 := hide (HA3.out.below hb4)
       have c34 : w4.cell? ⟨w.heap.size, 33, none⟩ = some (.slice va m cap) := (HX4.out.cell 33).trans (jrV_v HQO.out.len _)
       have HY4 := hide hB4
       clear hB4 hg4 HST4 hA4 hb4)
    | fail)
  refine (unhide HLA _ HB4.out).mono ?_
  rintro e w5 ⟨g, c, rfl, hld, hb5⟩
  have hY5 := HY4.out.below hb5
  have c35 : w5.cell? ⟨w3.heap.size, 33, none⟩ = some (.slice va m cap) := (hY5.cell 33).trans (jrV_v HQO.out.len _)
  have f35 := hY5.frozen 33
  have hlt3 : w3.heap.size < w4.heap.size := World.block_lt_of_cell? w4 _ ((HY4.out.cell 33).trans (jrV_v HQO.out.len _))
  have hA6 : Arr (w5.setCell ⟨w3.heap.size, 33, none⟩ (.slice (some ⟨g, 0, none⟩) m c)) w3.heap.size 26 (jrV q (.slice (some ⟨g, 0, none⟩) m c)) := by
    have := hY5.set 33 (.slice (some ⟨g, 0, none⟩) m c)
    rw [jrV_set HQO.out.len] at this
    exact this
  have HB6 : Hid (Below w.heap.size w (w5.setCell ⟨w3.heap.size, 33, none⟩ (.slice (some ⟨g, 0, none⟩) m c))) := hide ((below_then HB4.out hb5).setCell (Nat.le_of_lt HS3.out) _)
  have HX6 : Hid (Arr (w5.setCell ⟨w3.heap.size, 33, none⟩ (.slice (some ⟨g, 0, none⟩) m c)) w.heap.size 26 (jrV q (.slice va m cap))) := hide ((HX4.out.below hb5).other _ _ (by have := HS3.out; show w.heap.size ≠ w3.heap.size; omega))
  have HLD6 : Hid (LaidJ (w5.setCell ⟨w3.heap.size, 33, none⟩ (.slice (some ⟨g, 0, none⟩) m c)) w4.heap.size g m c q.rs) := hide ⟨hld.len, hld.own.kept (grown_set w5 w3.heap.size 33 (.slice (some ⟨g, 0, none⟩) m c)) (Or.inr (fun e => by
    have h1 : some g = some w3.heap.size := e
    obtain ⟨g', c', hv', _, _, hBg, _⟩ := owns_shape hld.own.2 (by simp)
    injection hv' with e1
    injection e1 with e1
    injection e1 with e1
    injection h1 with h1
    omega))⟩
  have hr6 := hA6.rangeJ
  have HA6 := hide hA6
  clear hld hb5 hY5 hA6 HY4 HX4 HA3 HB3 HLA hlt3 c34
  go_wp2_with (first
    | (generalize hw6 : w5.setCell ⟨w3.heap.size, 33, none⟩ (.slice (some ⟨g, 0, none⟩) m c) = w6 at *
       clear hw6
       refine wpList_loadJ rfl 26 (.tmp 3) rfl _ 0 rfl _ _ hr6 Tryd.underlying26 rfl (hi3 _) ?_
       clear hr6 c35 f35)
    | fail)
  refine (jenc_calls HQO.out HLD6.out.isJ (unhide HT _ HB6.out)).mono ?_
  rintro e w7 ⟨x7, rfl, ho7, hb7⟩
  obtain ⟨a7, n7, c7, rfl⟩ := ho7.shape
  have HO7 := hide ho7.isB
  have HB7 := hide (below_then HB6.out hb7)
  have hr7 : w7.rangeAt w.heap.size 0 (jrV q (.slice va m cap)) := Arr.rangeJ (HX6.out.below hb7)
  have HX7 := hide (HX6.out.below hb7)
  have HA7 := hide (HA6.out.below hb7)
  have HLD7 := hide (HLD6.out.below hb7)
  clear ho7 hb7 HX6 HA6 HLD6 HB6
  go_wp2_with (first
    | (refine wpList_loadJ rfl 26 (.tmp 1) rfl _ 0 rfl _ _ hr7 Tryd.underlying26 rfl (hi3 _) ?_)
    | fail)
  refine (renc_calls HQO.out (unhide HJ _ HB7.out)).mono ?_
  rintro e w8 ⟨x8, rfl, ho8, hb8⟩
  obtain ⟨a8, n8, c8, rfl⟩ := ho8.shape
  have HO8 := hide ho8.isB
  have HP8 := hide (HO7.out.below hb8)
  have HB8 := hide (below_then HB7.out hb8)
  have HX8 := hide (HX7.out.below hb8)
  have HA8 := hide (HA7.out.below hb8)
  have HLD8 := hide (HLD7.out.below hb8)
  clear ho8 hb8 HX7 HA7 HLD7 HB7 HO7 hr7
  generalize encE q = ee at *
  go_wp2_with fail
  refine (same_calls HP8.out HO8.out).mono ?_
  rintro e w9 ⟨rfl, hw9⟩
  have hb9 := below_same hw9
  have HB9 := hide (below_then HB8.out hb9)
  have k1 : w9.cell? ⟨w.heap.size, 33, none⟩ = some (.slice va m cap) := ((HX8.out.below hb9).cell 33).trans (jrV_v HQO.out.len _)
  have k3 : w9.cell? ⟨w3.heap.size, 33, none⟩ = some (.slice (some ⟨g, 0, none⟩) m c) := ((HA8.out.below hb9).cell 33).trans (jrV_v HQO.out.len _)
  have HLD9 := hide (HLD8.out.below hb9)
  clear hw9 hb9 HX8 HA8 HLD8 HB8 HP8 HO8
  go_wp2_with fail
  refine (intact17_calls HLD9.out (unhide HJ _ HB9.out)).mono ?_
  rintro e wa ⟨rfl, hba⟩
  have HBA := hide (below_then HB9.out hba)
  clear hba HLD9
  go_wp2
  go_ret
  exact ⟨rfl, HBA.out⟩
end Go.Proofs.YtoiidhkpbekpiaaDoor
