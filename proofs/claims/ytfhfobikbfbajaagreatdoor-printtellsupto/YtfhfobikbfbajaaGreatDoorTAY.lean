/- The program's reader: number, by the library's contracts of strconv.Atoi and Itoa. The program's shapes, and textFits. -/
import Derived.Test.YtfhfobikbfbajaaGreatDoorTAX
import Derived.Test.YtfhfobikbfbajaaGreatDoorTAI
import Derived.Shelf.Strconv.AtoiAll
import Derived.Shelf.Strconv.Itoa3
import Derived.WalkSmall
import Derived.Test.YtfhfobikbfbajaaGreatDoorTAJ
namespace Go.Proofs.YtfhfobikbfbajaaGreatDoor
open Go.RowKit Go.Maps Go.Shelf

def renA : Ren := ⟨fun | 172 => 117 | 244 => 140 | 245 => 141 | 247 => 157 | 279 => 158 | 280 => 159 | 281 => 160 | 282 => 161 | 287 => 176 | 316 => 138 | 171 => 57 | 205 => 177 | 321 => 185 | 322 => 186 | 243 => 98 | 246 => 132 | 283 => 152 | 284 => 153 | 285 => 154 | 286 => 155 | 129 => 172 | 317 => 171 | 318 => 173 | 319 => 174 | 320 => 175 | 337 => 183 | 338 => 184 | n => n, fun | 9 => 9 | 3 => 3 | 75 => 116 | 76 => 117 | 4 => 4 | 5 => 5 | 167 => 191 | 37 => 65 | 0 => 0 | 85 => 192 | 2 => 2 | 168 => 194 | 53 => 129 | 175 => 205 | 46 => 102 | 210 => 208 | 127 => 121 | 145 => 218 | 143 => 216 | 21 => 21 | 171 => 186 | 173 => 189 | 212 => 202 | 51 => 97 | 20 => 20 | 213 => 203 | 232 => 31 | 233 => 123 | 80 => 85 | n => n, fun | 15 => 5 | 16 => 6 | 17 => 4 | 18 => 7 | 19 => 8 | n => n⟩
theorem laysI0 : Lays.n171 Tryz.prog renA := by
  constructor
  all_goals first | kernel_rfl | (intro w; kernel_rfl)
theorem laysI : LaysM.n171 Tryz.prog renA := by
  constructor
  all_goals first | exact laysI0 | kernel_rfl | (intro w; kernel_rfl)
theorem below_grow (w : World) (k : Nat) (os : Array Obj) : Below w.heap.size w (Sort.grow (w.drewN k) os) :=
  ⟨rfl, rfl, rfl, by simp [Sort.grow], fun j hj => by
    show (w.heap ++ os)[j]? = w.heap[j]?
    rw [Array.getElem?_append_left hj]⟩
/-- What Itoa reads of variables. -/
structure Ny (w : World) : Prop where
  tab : Lib.TabIs Tryz.prog w "internal/strconv.uint64pow10" .u64 Lib.pow10Tab
  lt : 4 < w.heap.size
theorem Ny.below {w w' : World} (h : Ny w) (hb : Below w.heap.size w w') : Ny w' := by
  obtain ⟨h3, h4⟩ := h
  exact ⟨var?_below hb (by kernel_rfl) h4 h3, Nat.lt_of_lt_of_le h4 hb.size⟩
theorem itoa_callsY (n : Int) (h0 : -9223372036854775808 ≤ n) (h1 : n ≤ 9223372036854775807) (w : World) (h : Ny w) : Calls Tryz.prog 57 #[.int .i64 n] w fun e w' => e = .returned (.string ⟨(Lib.itoa n).toArray⟩) ∧ Below w.heap.size w w' := by
  refine (Any.strconv_Itoa laysI n h0 h1 w h.tab).mono ?_
  rintro e w' ⟨rfl, k, os, rfl⟩
  exact ⟨rfl, below_grow _ _ _⟩
set_option maxRecDepth 100000 in
theorem rwithin_calls (n lo hi : Int) (w : World) : Calls Tryz.prog 53 #[.int .i64 n, .int .i64 lo, .int .i64 hi] w fun e w' => e = .returned (.bool (decide (lo ≤ n) && decide (n ≤ hi))) ∧ w = w' := by
  by_cases h : lo ≤ n
  · by_cases h2 : n ≤ hi
    · rw [decide_eq_true h, decide_eq_true h2]
      go_enter Tryz.func53, Tryz.ntmps53
      go_wp2
      go_ret
      exact ⟨rfl, rfl⟩
    · rw [decide_eq_true h, decide_eq_false h2]
      go_enter Tryz.func53, Tryz.ntmps53
      go_wp2
      go_ret
      exact ⟨rfl, rfl⟩
  · rw [decide_eq_false h]
    go_enter Tryz.func53, Tryz.ntmps53
    go_wp2
    go_ret
    exact ⟨rfl, rfl⟩
end Go.Proofs.YtfhfobikbfbajaaGreatDoor

namespace Go.Proofs.YtfhfobikbfbajaaGreatDoor
open Go.RowKit Go.Maps

def txM (k : Int) : Int := if k = 1 then 1 else if k = 2 then 2 else if k = 3 ∨ k = 13 then 3 else 0
def agM (k : Int) : Nat := if k = 1 then 0 else argN k.toNat
/-- The table's row of a kind. -/
def shQ (k : Int) : List Value := [.string (wds.getD k.toNat noText), .int .i64 (txM k), .int .i64 (agM k : Int), .bool (decide (k = 4)), .bool (decide (k = 7))]
def ShT (w : World) : Prop := ∀ k : Nat, 1 ≤ k → k ≤ 15 → w.rangeAt 1 (k * 5) (shQ k)
theorem ShT.below {w w' : World} (h : ShT w) (hb : Below w.heap.size w w') : ShT w' := fun k h1 h2 => rangeAt_below (h k h1 h2) hb
/-- What the program reads besides its arguments. -/
structure Pg (w : World) : Prop where
  sh : ShT w
  mx : Mx w
  nx : Ny w
theorem Pg.below {w w' : World} (h : Pg w) (hb : Below w.heap.size w w') : Pg w' := ⟨h.sh.below hb, h.mx.below hb, h.nx.below hb⟩
theorem lit_eqP (s : ByteArray) (l : List UInt8) : (s.toList == l) = decide (s = ⟨l.toArray⟩) := by
  rw [← str_eq]
  congr 1
  rw [ByteArray.toList_eq]
section
variable {k n m : Int} {x : ByteArray} {q : Nat}
theorem cnt_sh : cntF k q = (decide (q = agM k) || (decide (k = 4) && decide (agM k < q))) := by
  unfold cntF agM
  by_cases h1 : k = 1
  · rw [if_pos h1, if_pos h1, decide_eq_false (show ¬ k = 4 by omega), Bool.false_and, Bool.or_false]
  · rw [if_neg h1, if_neg h1, ← Bool.decide_and, ← Bool.decide_or]
theorem nu_sh : nuF k n m = ((decide (0 ≤ n) && decide (n ≤ if k = 7 then 2147483647 else 0)) && (decide (0 ≤ m) && decide (m ≤ if k = 7 then 2147483647 else 0))) := by
  unfold nuF
  by_cases h7 : k = 7
  · rw [if_pos h7, if_pos h7, ← Bool.decide_and, ← Bool.decide_and, ← Bool.decide_and]
    exact decide_eq_decide.2 ⟨fun h => ⟨⟨h.1, h.2.1⟩, h.2.2⟩, fun h => ⟨h.1.1, h.1.2, h.2⟩⟩
  · rw [if_neg h7, if_neg h7, ← Bool.decide_and, ← Bool.decide_and, ← Bool.decide_and]
    exact decide_eq_decide.2 ⟨fun h => by omega, fun h => by omega⟩
end
set_option maxRecDepth 100000 in
set_option maxHeartbeats 4000000 in
theorem ptext_calls (s : ByteArray) (hs : s.size ≤ 2000000) (k : Int) (w : World) (hM : Mx w) : Calls Tryz.prog 130 #[.string s, .int .i64 (txM k)] w fun e w' => e = .returned (.bool (txF nameB ptW k s)) ∧ Below w.heap.size w w' := by
  have HP : Hid (Calls Tryz.prog 93 #[.string s] w fun e w' => e = .returned (.bool (ptW s)) ∧ Below w.heap.size w w') := hide (isPath_calls s hs w hM)
  have HN := hide (name_calls s (by omega) w)
  unfold txM txF
  by_cases h1 : k = 1
  · rw [if_pos h1, if_pos h1]
    clear h1 hs
    go_enter Tryz.func130, Tryz.ntmps130
    go_wp2
    go_ret
    exact ⟨rfl, Below.refl _ _⟩
  rw [if_neg h1, if_neg h1]
  by_cases h2 : k = 2
  · rw [if_pos h2, if_pos h2]
    clear h1 h2 hs
    go_enter Tryz.func130, Tryz.ntmps130
    go_wp2_with fail
    refine (unhide HP).mono ?_
    rintro e w2 ⟨rfl, hb⟩
    go_wp2
    go_ret
    exact ⟨rfl, hb⟩
  rw [if_neg h2, if_neg h2]
  by_cases h3 : k = 3 ∨ k = 13
  · rw [if_pos h3, if_pos h3]
    clear h1 h2 h3 hs
    go_enter Tryz.func130, Tryz.ntmps130
    go_wp2_with fail
    refine (unhide HN).mono ?_
    rintro e w2 ⟨rfl, hb⟩
    go_wp2
    go_ret
    exact ⟨rfl, hb⟩
  rw [if_neg h3, if_neg h3]
  have he := lit_eqP s []
  have he2 : decide (s = noText) = s.toList.isEmpty := by
    have : decide (s = noText) = (s.toList == []) := he.symm
    rw [this]
    cases s.toList <;> rfl
  rw [he2]
  clear h1 h2 h3 hs he he2
  go_enter Tryz.func130, Tryz.ntmps130
  go_wp2
  go_ret
  exact ⟨rfl, Below.refl _ _⟩
end Go.Proofs.YtfhfobikbfbajaaGreatDoor
