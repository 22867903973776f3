/- append onto a row of the call's own: where the new slice lies, and which other slices of the same row still read what they read. -/
import Derived.Maps.AppendAt
import Derived.Laws.OwnMore
import Derived.Laws.AppendOwnNone
import Derived.WalkKit
import Derived.Below
namespace Go.Proofs.YthhjlopgpmaokabDoor
open Go.RowKit

/-- A row of cells of the call's own. -/
def Row (w : World) (B : Nat) (t : TypeId) (v : Value) (xs : List Value) : Prop := w.ownsRow B t 1 v xs.length xs
theorem Row.kept {w w' : World} {B : Nat} {t : TypeId} {v : Value} {xs : List Value} {row : Option Nat} (h : Row w B t v xs) (hg : w.grownBy w' row) (hne : v.ownBlock = none ∨ v.ownBlock ≠ row) : Row w' B t v xs := World.ownsRow.kept h hg hne
theorem Row.grown {w w' : World} {B : Nat} {t : TypeId} {v : Value} {xs : List Value} (h : Row w B t v xs) (hg : w.grownBy w' none) : Row w' B t v xs := h.kept hg (by cases v.ownBlock <;> simp)
theorem Row.nil (w : World) (B : Nat) (t : TypeId) : Row w B t (.slice none 0 0) [] := World.ownsRow_nil _ _ _ _
theorem Row.shape {w : World} {B : Nat} {t : TypeId} {v : Value} {xs : List Value} (h : Row w B t v xs) : ∃ a c, v = .slice a xs.length c := by
  rcases h.2 with ⟨rfl, h0⟩ | ⟨g, cap, cur, rfl, _⟩
  · exact ⟨none, 0, by rw [h0]⟩
  · exact ⟨_, cap, rfl⟩
theorem Row.head {w : World} {B : Nat} {t : TypeId} {v : Value} {xs : List Value} (h : Row w B t v xs) (hp : 0 < xs.length) : ∃ g c, v = .slice (some ⟨g, 0, none⟩) xs.length c ∧ xs.length ≤ c ∧ c ≤ 9223372036854775807 ∧ B ≤ g ∧ g < w.heap.size := by
  rcases h.2 with ⟨rfl, h0⟩ | ⟨g, cap, cur, rfl, hb, hg, hle, hm, _⟩
  · omega
  · exact ⟨g, cap, rfl, hle, by simpa [maxLen] using hm, hb, (Array.getElem?_eq_some_iff.1 hg).1⟩
theorem Row.lt {w : World} {B : Nat} {t : TypeId} {v : Value} {xs : List Value} (h : Row w B t v xs) : ∀ k, v.ownBlock = some k → B ≤ k ∧ k < w.heap.size := World.ownsRow.lt h
theorem Row.mono {w : World} {B B' : Nat} {t : TypeId} {v : Value} {xs : List Value} (h : Row w B t v xs) (hb : B' ≤ B) : Row w B' t v xs := by
  obtain ⟨h1, h2⟩ := h
  refine ⟨h1, ?_⟩
  rcases h2 with h2 | ⟨g, cap, cur, hv, hg, rest⟩
  · exact Or.inl h2
  · exact Or.inr ⟨g, cap, cur, hv, by omega, rest⟩
theorem Row.apart {w : World} {b1 b2 : Nat} {t1 t2 : TypeId} {v1 v2 : Value} {c1 c2 : List Value} (h1 : Row w b1 t1 v1 c1) (h2 : Row w b2 t2 v2 c2) (ht : t1 ≠ t2) :
    v1.ownBlock = none ∨ v1.ownBlock ≠ v2.ownBlock := by
  rcases h1.2 with ⟨rfl, _⟩ | ⟨g, cap, cur, rfl, _, hg, _⟩
  · exact Or.inl rfl
  · rcases h2.2 with ⟨rfl, _⟩ | ⟨g', cap', cur', rfl, _, hg', _⟩
    · exact Or.inr (by simp [Value.ownBlock])
    · refine Or.inr fun e => ht ?_
      simp only [Value.ownBlock, Option.some.injEq] at e
      subst e
      rw [hg] at hg'
      simp only [Option.some.injEq, Obj.cells.injEq] at hg'
      exact hg'.2.1
/-- The rows that still read what they read behind an append of ys to xs in the block of v. -/
def Shares (w w' : World) (t : TypeId) (v : Value) (xs ys : List Value) : Prop :=
  ∀ B2 v2 zs, Row w B2 t v2 zs → (v2.ownBlock = v.ownBlock → ∀ j, xs.length ≤ j → j < xs.length + ys.length → j < zs.length → zs[j]? = (xs ++ ys)[j]?) → Row w' B2 t v2 zs
theorem grownBy_none (w : World) (o : Obj) : w.grownBy (w.drew.alloc o) none := ⟨rfl, rfl, rfl, by simp, fun k hk _ => by have := World.grownBy_alloc w.drew o none; exact this.block k hk (by simp)⟩

theorem run_append_share {P : Program} (w : World) (B : Nat) (t ty e : TypeId) (i : TypeInfo) (z : Value) (bytes : Nat) (ht : P.underlying t = some (.slice e)) (hi : P.info? e = some i) (hz : i.zero = some z)
    (hsize : i.size = 1) (hby : i.bytes = bytes) (hzs : z.cells.size = 1) (v : Value) (xs : List Value) (hown : Row w B e v xs)
    (a : Addr) (m c : Nat) (news : List Value) (hl : news.length = m) (hnews : ∀ j u, news[j]? = some u → w.cell? (a.add j) = some u) (h1 : ∀ u ∈ news, u.oneCell' = true)
    (h63 : xs.length + m ≤ maxLen) (hbytes : (xs.length + m) * bytes ≤ 140737488355328) (hbase : B ≤ w.heap.size) :
    ∃ v' w', (Builtin.append_ #[t, t] ty #[v, .slice (some a) m c]).run P w = .ok v' w' ∧ Row w' B e v' (xs ++ news) ∧ w.grownBy w' v.ownBlock ∧ (v'.ownBlock = v.ownBlock ∨ v'.ownBlock = some w.heap.size) ∧ Shares w w' e v xs news := by
  obtain ⟨v', w', hr, h2, h3, _, h5⟩ := run_append_own_at (P := P) w B t ty e i z 1 bytes ht hi hz hsize hby hzs (by decide) v xs.length xs hown a m c news (by omega) hnews h1 h63 hbytes hbase
  have hsmall : xs.length + m ≤ 9223372036854775807 := by simp only [maxLen] at h63; omega
  refine ⟨v', w', hr, by unfold Row; rw [List.length_append, hl]; exact h2, h3, h5, ?_⟩
  intro B2 v2 zs hz2 hag
  have hown' := hown
  rcases hown.2 with ⟨rfl, _⟩ | ⟨g, cap, cur, rfl, hbg, hg, hnc, hcm, hcs, htake⟩
  · exact hz2.grown h3
  · simp only [Nat.mul_one] at hcs htake
    by_cases hroom : xs.length + m ≤ cap
    · have hfit : xs.length * i.size + news.length ≤ cur.size := by rw [hsize, hl, hcs]; omega
      have hr2 := run_append_room (P := P) w t ty e i ht hi g xs.length cap cur hg a m c news (by rw [hsize]; omega) hnews h1 hroom hfit
      rw [hr] at hr2
      injection hr2 with _ hw
      subst hw
      by_cases hgg : v2.ownBlock = some g
      · rcases hz2.2 with ⟨rfl, _⟩ | ⟨g2, cap2, cur2, rfl, hb2, hg2, hnc2, hcm2, hcs2, htake2⟩
        · simp [Value.ownBlock] at hgg
        · simp only [Value.ownBlock, Option.some.injEq] at hgg
          subst hgg
          rw [hg] at hg2
          simp only [Option.some.injEq, Obj.cells.injEq, and_true] at hg2
          subst hg2
          simp only [Nat.mul_one] at hcs2 htake2
          have hcap : cap2 = cap := by omega
          subst hcap
          refine ⟨by simp, .inr ⟨g2, cap2, _, rfl, hb2, setRow_heap w g2 cur _ e _ hg, hnc2, hcm2, ?_, ?_⟩⟩
          · simp only [List.size_toArray, List.length_append, List.length_take, List.length_drop, Array.length_toList, hsize]
            omega
          · simp only [Nat.mul_one, hsize]
            rw [htake]
            have hcl : cur.toList.length = cap2 := by simpa using hcs
            apply List.ext_getElem?
            intro j
            by_cases hj : j < zs.length
            · rw [List.getElem?_take_of_lt hj]
              by_cases hj1 : j < xs.length
              · rw [List.append_assoc, List.getElem?_append_left hj1]
                have e1 : xs[j]? = cur.toList[j]? := by rw [← htake, List.getElem?_take_of_lt hj1]
                have e2 : zs[j]? = cur.toList[j]? := by
                  have : zs[j]? = (cur.toList.take zs.length)[j]? := by rw [htake2]
                  rw [this, List.getElem?_take_of_lt hj]
                rw [e1, e2]
              · by_cases hj2 : j < xs.length + news.length
                · rw [hag rfl j (by omega) hj2 hj, List.getElem?_append_left (by simp; omega)]
                · rw [List.getElem?_append_right (by simp; omega), List.getElem?_drop]
                  have e2 : zs[j]? = cur.toList[j]? := by
                    have : zs[j]? = (cur.toList.take zs.length)[j]? := by rw [htake2]
                    rw [this, List.getElem?_take_of_lt hj]
                  rw [e2]
                  congr 1
                  simp
                  omega
            · rw [List.getElem?_eq_none (by have := List.length_take_le zs.length (xs ++ news ++ List.drop (xs.length + news.length) cur.toList); omega), List.getElem?_eq_none (by omega)]
      · exact hz2.kept h3 (Or.inr hgg)
    · have holds : ∀ j u, xs[j]? = some u → w.cell? ((⟨g, 0, none⟩ : Addr).add j) = some u := hown'.cells (g := g) rfl
      have hr2 := run_append_grow (P := P) w t ty e i z ht hi hz ⟨g, 0, none⟩ xs.length cap xs (by rw [hsize]; omega) holds a m c news (by rw [hsize]; omega) hnews (by omega) (by omega) (growslice_fits (by omega) (by rw [hby]; exact hbytes))
      rw [hr] at hr2
      injection hr2 with _ hw
      subst hw
      exact hz2.grown (grownBy_none w _)
end Go.Proofs.YthhjlopgpmaokabDoor
