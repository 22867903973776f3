/- cutRefs, place; what JournalBack answers. -/
import Derived.Test.YtoiidhkpbekpiaaDoorJrTo
import Derived.Test.YtoiidhkpbekpiaaDoorKE
import Derived.Test.YtoiidhkpbekpiaaDoorKB
import Derived.Test.YtoiidhkpbekpiaaDoorKD
namespace Go.Proofs.YtoiidhkpbekpiaaDoor
open Go.RowKit Go.Maps

theorem IsJ.cut {w : World} {a : Option Addr} {n cap k : Nat} {l : List JF} (h : IsJ w (.slice a n cap) l) (hk : k ≤ n) : IsJ w (.slice a k cap) (l.take k) := by
  obtain ⟨h0, a', c', hv, hl, hm, hz, hc⟩ := h
  injection hv with e1 e2 e3
  subst e1 e2 e3
  have hlk : (l.take k).length = k := by rw [List.length_take]; omega
  refine ⟨fun e he => h0 e (List.mem_of_mem_take he), a, cap, by rw [hlk], by omega, hm, hz, fun hp => ?_⟩
  obtain ⟨b, o, ha, hr⟩ := hc (by omega)
  refine ⟨b, o, ha, fun j hj => ?_⟩
  have := hr j (by omega)
  rw [show (l.take k).getD j .nul = l.getD j .nul by rw [List.getD_eq_getElem?_getD, List.getElem?_take_of_lt (by omega), ← List.getD_eq_getElem?_getD]]
  exact this
theorem IsJ.room {w : World} {a : Option Addr} {n cap : Nat} {l : List JF} (h : IsJ w (.slice a n cap) l) : n ≤ cap ∧ cap ≤ 9223372036854775807 := by
  obtain ⟨h0, a', c', hv, hl, hm, hz, hc⟩ := h
  injection hv with e1 e2 e3
  subst e1 e2 e3
  exact ⟨hl, hm⟩
theorem cutrefs_calls {w : World} {a : Option Addr} {n cap : Nat} {l : List JF} (h : IsJ w (.slice a n cap) l) :
    Calls Tryd.prog 9 #[.slice a n cap] w fun e w' => (∃ m, e = .returned (.slice a m cap) ∧ m ≤ n ∧ (m = 12 ∨ (m = n ∧ n ≤ 12))) ∧ w' = w := by
  have hn := h.lenEq
  have hr := h.room
  by_cases hlt : 12 < n
  · have hkI : (12 : Int) < (n : Int) := by omega
    have hkc : (12 : Int) ≤ (cap : Int) := by omega
    obtain ⟨ad, had⟩ : ∃ ad, a = some ad := by
      obtain ⟨_, a', cp', hv, _, _, _, hc⟩ := h
      obtain ⟨b, off, ha, _⟩ := hc (by omega)
      injection hv with e1
      exact ⟨_, e1.trans ha⟩
    subst had
    clear hn h
    go_enter Tryd.func9, Tryd.ntmps9
    go_wp2
    go_ret
    exact ⟨⟨12, rfl, by omega, Or.inl rfl⟩, rfl⟩
  · have hkI : ¬ (12 : Int) < (n : Int) := by omega
    clear hn h
    go_enter Tryd.func9, Tryd.ntmps9
    go_wp2
    go_ret
    exact ⟨⟨n, rfl, by omega, Or.inr ⟨rfl, by omega⟩⟩, rfl⟩
end Go.Proofs.YtoiidhkpbekpiaaDoor

