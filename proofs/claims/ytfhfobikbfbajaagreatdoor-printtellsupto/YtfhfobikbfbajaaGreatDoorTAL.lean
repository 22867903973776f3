/- word. escape. literal. -/
import Derived.Test.YtfhfobikbfbajaaGreatDoorTAJ
import Derived.Shelf.Pu.Clone
namespace Go.Proofs.YtfhfobikbfbajaaGreatDoor
open Go.RowKit Go.Maps

theorem take_more {s : ByteArray} {a b : Nat} (hab : a ≤ b) (hb : b < s.size) : (s.data.toList.drop a).take (b + 1 - a) = (s.data.toList.drop a).take (b - a) ++ [lk s b] := by
  have hl : b - a < (s.data.toList.drop a).length := by rw [List.length_drop, len_data]; omega
  rw [show b + 1 - a = (b - a) + 1 by omega, List.take_succ_eq_append_getElem hl]
  congr 2
  rw [List.getElem_drop]
  unfold lk
  rw [List.getD_eq_getElem?_getD]
  have : b < s.data.toList.length := by rw [len_data]; exact hb
  rw [List.getElem?_eq_getElem this]
  simp only [Option.getD_some]
  congr 1
  omega
end Go.Proofs.YtfhfobikbfbajaaGreatDoor

namespace Go.Proofs.YtfhfobikbfbajaaGreatDoor
open Go.RowKit Go.Maps

end Go.Proofs.YtfhfobikbfbajaaGreatDoor

namespace Go.Proofs.YtfhfobikbfbajaaGreatDoor
open Go.RowKit Go.Maps

end Go.Proofs.YtfhfobikbfbajaaGreatDoor
