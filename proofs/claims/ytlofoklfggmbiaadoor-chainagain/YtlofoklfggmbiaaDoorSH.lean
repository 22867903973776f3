/- What Load answers. The document's space in memory; its Has, Claim. The document's Has, Claim, Give. The document's Give. The document's List. The document's New. -/
import Derived.Test.YtlofoklfggmbiaaDoorQM
import Derived.Test.YtlofoklfggmbiaaDoorQC
import Derived.Test.YtlofoklfggmbiaaDoorQV
import Derived.Deep.QuietTactic
import Derived.BigQuiet
namespace Go.Proofs.YtlofoklfggmbiaaDoor
open Go.RowKit Go.Maps

/-- A sector that lasts is written. -/
theorem Dk.put {w : World} {p gl gm i : Nat} {V : Nat → Value} {D : AD} {s : List Int} (h : Dk w p gl gm V D) (hi : i < D.la.length) (hs : IsSec s) : Dk (w.setCells gl (i * 512) (u8V s)) p gl gm V { D with la := D.la.set i s } := by
 have hg := grown_setCells w gl (i * 512) (u8V s)
 have hl : (D.la.set i s).length = D.la.length := List.length_set
 obtain ⟨M, hM, h2⟩ := h.map
 have hok := h.ok
 refine ⟨⟨by rw [hl]; exact hok.lo, by rw [hl]; exact hok.hi, fun t ht => ?_, hok.wrs, fun j hj => hok.out j (by rw [hl] at hj; exact hj)⟩, ?_, ?_, ⟨M, hM.kept hg (by simp only [ne_eq, Option.some.injEq]; exact fun e => h.gl_gm e.symm), h2⟩, fun j => (h.row j).kept hg (Or.inr (h.low j)), h.own, h.low⟩
 · rcases List.mem_or_eq_of_mem_set ht with ht | ht
   · exact hok.las t ht
   · rw [ht]; exact hs
 · simp only [hl]
   exact h.blk.keep (hg.block p h.blk.lt (by simp only [ne_eq, Option.some.injEq]; exact h.p_gl))
 · have := owns_set h.las hok.las rfl hi hs
   simp only [hl]
   exact this
theorem Dk.drew {w : World} {p gl gm : Nat} {V : Nat → Value} {D : AD} (h : Dk w p gl gm V D) : Dk w.drew p gl gm V D := h.below (Below.drew (Below.refl _ _))
end Go.Proofs.YtlofoklfggmbiaaDoor

namespace Go.Proofs.YtlofoklfggmbiaaDoor
open Go.RowKit

end Go.Proofs.YtlofoklfggmbiaaDoor

namespace Go.Proofs.YtlofoklfggmbiaaDoor
open Go.RowKit

end Go.Proofs.YtlofoklfggmbiaaDoor

namespace Go.Proofs.YtlofoklfggmbiaaDoor
open Go.RowKit

end Go.Proofs.YtlofoklfggmbiaaDoor

namespace Go.Proofs.YtlofoklfggmbiaaDoor
open Go.RowKit

end Go.Proofs.YtlofoklfggmbiaaDoor

namespace Go.Proofs.YtlofoklfggmbiaaDoor
open Go.RowKit

end Go.Proofs.YtlofoklfggmbiaaDoor
