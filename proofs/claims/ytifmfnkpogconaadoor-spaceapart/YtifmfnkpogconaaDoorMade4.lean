/- A space and the document's, both or none. -/
import Derived.Test.YtifmfnkpogconaaDoorTold4
namespace Go.Proofs.YtifmfnkpogconaaDoor
open Go.RowKit

set_option maxHeartbeats 1000000 in
theorem num4_calls (n : Int) (w : World) : Calls Tryd.prog 17 #[.int .i64 n] w fun e w' => e = .returned (.int .i64 n) ∧ w' = w := by
  go_enter Tryd.func17, Tryd.ntmps17
  go_wp2
  go_ret
  exact ⟨rfl, rfl⟩
set_option maxRecDepth 100000 in
set_option maxHeartbeats 4000000 in
theorem made_no {w : World} (fr to_ : Int) (h : fr < 0 ∨ to_ ≤ fr ∨ 65536 < to_) :
    Calls Tryd.prog 9 #[.int .i64 fr, .int .i64 to_] w fun e w' => e = .returned (.tuple #[.pointer none, .bool true]) ∧ Below w.heap.size w w' := by
  have H1 := hide (new_no (w := w) fr to_ h)
  have H2 : Hid (∀ W, Calls Tryd.prog 30 #[.int .i64 fr, .int .i64 to_] W fun e w' => e = .returned (.tuple #[.pointer none, .int .i64 40]) ∧ Below W.heap.size W w') := fun W => rnew_no fr to_ h
  have H3 : Hid (∀ W, Calls Tryd.prog 17 #[.int .i64 40] W fun e w' => e = .returned (.int .i64 40) ∧ w' = W) := fun W => num4_calls 40 W
  clear h
  go_enter Tryd.func9, Tryd.ntmps9
  go_wp2_with fail
  refine (unhide H1).mono ?_
  rintro e w1 ⟨rfl, hb1⟩
  go_wp2_with fail
  refine (unhide H2 w1).mono ?_
  rintro e w2 ⟨rfl, hb2⟩
  go_wp2_with fail
  refine (unhide H3 w2).mono ?_
  rintro e w3 ⟨rfl, hw3⟩
  subst hw3
  go_wp2
  go_ret2
  exact ⟨rfl, hb1.trans (hb2.mono hb1.size)⟩
theorem Rs.mono {w : World} {B B' g gb fr to_ : Nat} {bs : List Bool} (h : Rs w B g gb fr to_ bs) (hb : B' ≤ B) : Rs w B' g gb fr to_ bs := by
  obtain ⟨c, h1, h2⟩ := h.blk
  exact ⟨⟨c, h1, h2.mono hb⟩, h.rng, h.len⟩
/-- A World of one space, all of whose numbers are free, and of the document's. -/
def MadeAt (w : World) (B gW fr to_ : Nat) : Prop := ∃ gs gr g gw g2 gb,
  w.heap[gW]? = some (.cells #[.slice (some ⟨gs, 0, none⟩) 1 1, .slice (some ⟨gr, 0, none⟩) 1 1, .slice none 0 0, .slice none 0 0, .int .i64 0] 34 (0, 0)) ∧
  w.heap[gs]? = some (.cells #[.pointer (some ⟨g, 0, none⟩)] 35 (0, 0)) ∧ w.heap[gr]? = some (.cells #[.pointer (some ⟨g2, 0, none⟩)] 36 (0, 0)) ∧
  Sp w B g gw fr to_ (newW (to_ - fr)) ∧ Rs w B g2 gb fr to_ (List.replicate (to_ - fr) true) ∧ B ≤ gW ∧ B ≤ gs ∧ B ≤ gr ∧ B ≤ g ∧ B ≤ g2
set_option maxRecDepth 100000 in
set_option maxHeartbeats 4000000 in
theorem made_calls {w : World} (fr to_ : Nat) (h1 : fr < to_) (h2 : to_ ≤ 65536) (hT : Tz w) :
    Calls Tryd.prog 9 #[.int .i64 (fr : Int), .int .i64 (to_ : Int)] w fun e w' => ∃ gW, e = .returned (.tuple #[.pointer (some ⟨gW, 0, none⟩), .bool true]) ∧ MadeAt w' w.heap.size gW fr to_ ∧ Below w.heap.size w w' := by
  have H1 := hide (spNew_calls (w := w) fr to_ h1 h2)
  have H2 : Hid (∀ W, Calls Tryd.prog 30 #[.int .i64 (fr : Int), .int .i64 (to_ : Int)] W fun e w' => ∃ g gb, e = .returned (.tuple #[.pointer (some ⟨g, 0, none⟩), .int .i64 0]) ∧ Rs w' W.heap.size g gb fr to_ (List.replicate (to_ - fr) true) ∧ W.heap.size ≤ g ∧ Below W.heap.size W w') := fun W => rnew_calls fr to_ h1 h2
  have H3 : Hid (∀ W, Calls Tryd.prog 17 #[.int .i64 0] W fun e w' => e = .returned (.int .i64 0) ∧ w' = W) := fun W => num4_calls 0 W
  have HT := hide hT
  have HTW := hide (Tw.new h1)
  clear hT
  go_enter Tryd.func9, Tryd.ntmps9
  go_wp2_with fail
  refine (unhide H1).mono ?_
  rintro e w1 ⟨g, gw, rfl, hsp, hg, hb1⟩
  have HSP := hide hsp
  clear hsp
  go_wp2_with fail
  refine (unhide H2 w1).mono ?_
  rintro e w2 ⟨g2, gb, rfl, hrs, hg2, hb2⟩
  have HRS := hide hrs
  clear hrs
  go_wp2_with fail
  refine (unhide H3 w2).mono ?_
  rintro e w3 ⟨rfl, hw3⟩
  subst hw3
  go_wp2_with fail
  have k1 := heap_alloc_new w3 (.cells #[.pointer (some ⟨g, 0, none⟩)] 35)
  have b1 : Below w3.heap.size w3 (w3.alloc (.cells #[.pointer (some ⟨g, 0, none⟩)] 35)) := (Below.refl _ _).alloc (Nat.le_refl _) _
  have z1 : (w3.alloc (.cells #[.pointer (some ⟨g, 0, none⟩)] 35)).heap.size = w3.heap.size + 1 := by simp
  generalize (w3.alloc (.cells #[.pointer (some ⟨g, 0, none⟩)] 35)) = w4 at k1 b1 z1 ⊢
  have k2 := heap_alloc_new w4 (.cells #[.pointer (some ⟨g2, 0, none⟩)] 36)
  have b2 : Below w4.heap.size w4 (w4.alloc (.cells #[.pointer (some ⟨g2, 0, none⟩)] 36)) := (Below.refl _ _).alloc (Nat.le_refl _) _
  have z2 : (w4.alloc (.cells #[.pointer (some ⟨g2, 0, none⟩)] 36)).heap.size = w4.heap.size + 1 := by simp
  generalize (w4.alloc (.cells #[.pointer (some ⟨g2, 0, none⟩)] 36)) = w5 at k2 b2 z2 ⊢
  have k3 := heap_alloc_new w5 (.cells #[.slice (some ⟨w3.heap.size, 0, none⟩) 1 1, .slice (some ⟨w3.heap.size + 1, 0, none⟩) 1 1, .slice none 0 0, .slice none 0 0, .int .i64 0] 34)
  have b3 : Below w5.heap.size w5 (w5.alloc (.cells #[.slice (some ⟨w3.heap.size, 0, none⟩) 1 1, .slice (some ⟨w3.heap.size + 1, 0, none⟩) 1 1, .slice none 0 0, .slice none 0 0, .int .i64 0] 34)) := (Below.refl _ _).alloc (Nat.le_refl _) _
  generalize (w5.alloc (.cells #[.slice (some ⟨w3.heap.size, 0, none⟩) 1 1, .slice (some ⟨w3.heap.size + 1, 0, none⟩) 1 1, .slice none 0 0, .slice none 0 0, .int .i64 0] 34)) = w6 at k3 b3 ⊢
  have B1 : Below w3.heap.size w3 w6 := b1.trans ((b2.trans (b3.mono b2.size)).mono b1.size)
  have HSP6 := ((unhide HSP).below hb2).below B1
  have HRS6 := (unhide HRS).below B1
  have B0 : Below w.heap.size w w6 := hb1.trans ((hb2.trans (B1.mono hb2.size)).mono hb1.size)
  have hz := hb1.size
  have hz2 := hb2.size
  have K1 : w6.heap[w3.heap.size]? = some (.cells #[.pointer (some ⟨g, 0, none⟩)] 35 (0, 0)) := by
    rw [(b2.trans (b3.mono b2.size)).block _ (by omega)]
    exact k1
  have K2 : w6.heap[w3.heap.size + 1]? = some (.cells #[.pointer (some ⟨g2, 0, none⟩)] 36 (0, 0)) := by
    rw [b3.block _ (by omega), ← z1]
    exact k2
  have HTO := hide (told_calls HSP6 HRS6 HTW.out ((HT.out).below B0))
  have HM : Hid (∀ W, Below w6.heap.size w6 W → MadeAt W w.heap.size w5.heap.size fr to_ ∧ Below w.heap.size w W) := fun W hW => by
    have blk : ∀ {k : Nat} {o : Obj}, w6.heap[k]? = some o → W.heap[k]? = some o := fun {k o} hk => by
      rw [hW.block k (Array.getElem?_eq_some_iff.1 hk).1]; exact hk
    exact ⟨⟨w3.heap.size, w3.heap.size + 1, g, gw, g2, gb, blk k3, blk K1, blk K2, HSP6.below hW, (HRS6.below hW).mono hz, by omega, by omega, by omega, hg, by omega⟩, B0.trans (hW.mono B0.size)⟩
  rw [z2, z1] at HM
  clear k1 k2 k3 K1 K2 HSP6 HRS6
  refine (unhide HTO).mono ?_
  rintro e w7 ⟨rfl, hb7⟩
  obtain ⟨M1, M2⟩ := unhide HM w7 hb7
  have HM1 := hide M1
  clear M1
  go_wp2
  go_ret2
  exact ⟨_, rfl, HM1.out, M2⟩
end Go.Proofs.YtifmfnkpogconaaDoor
