/- What WireSums' walk takes: three byte strings laid over one another; small steps of the walk. -/
import Derived.Test.YtmfpkoegpoboiabDoorJoin
import Derived.Deep.RegionHeld3
import Derived.Deep.DrawnRows
import Derived.Deep.AppendLies
import Derived.Laws.BitsAllLaws
namespace Go.Proofs.YtmfpkoegpoboiabDoor
open Go.RowKit

theorem isB_nil (w : World) : IsB w (.slice none 0 0) [] := ⟨by simp, none, 0, rfl, by simp, by omega, fun _ => rfl, fun h => by simp at h⟩
theorem isBB_nil (w : World) : IsBB w (.slice none 0 0) [] := ⟨none, 0, rfl, by simp, by omega, fun h => by simp at h⟩
theorem sum_known {w : World} {v : Value} (h : IsBB w v [[49, 50, 51, 52], [], [53, 54, 55, 56, 57]]) (ht : Tab w) : Calls Tryd.prog 15 #[v] w fun e w' => e = .returned (.int .u32 3421780262) ∧ w' = w := by
  have := sum_calls h ht
  rwa [show sumOf [[49, 50, 51, 52], [], [53, 54, 55, 56, 57]] = 3421780262 by decide +kernel] at this
theorem sum_no {w : World} {v : Value} (h : IsBB w v []) (ht : Tab w) : Calls Tryd.prog 15 #[v] w fun e w' => e = .returned (.int .u32 0) ∧ w' = w := by
  have := sum_calls h ht
  rwa [show sumOf [] = 0 by decide +kernel] at this
theorem sum_two {w : World} {v : Value} (h : IsBB w v [[], []]) (ht : Tab w) : Calls Tryd.prog 15 #[v] w fun e w' => e = .returned (.int .u32 0) ∧ w' = w := by
  have := sum_calls h ht
  rwa [show sumOf [[], []] = 0 by decide +kernel] at this

/-- Three byte strings laid over one another, the first n bytes. -/
def lay (xa xb xc : List Int) (n : Nat) : List Int := (List.range n).map fun j => (((xa[j]?.getD 0).toNat ^^^ (xb[j]?.getD 0).toNat ^^^ (xc[j]?.getD 0).toNat : Nat) : Int)
theorem lay_succ (xa xb xc : List Int) (n : Nat) : lay xa xb xc (n + 1) = lay xa xb xc n ++ [(((xa[n]?.getD 0).toNat ^^^ (xb[n]?.getD 0).toNat ^^^ (xc[n]?.getD 0).toNat : Nat) : Int)] := by simp [lay, List.range_succ]
theorem lay_len (xa xb xc : List Int) (n : Nat) : (lay xa xb xc n).length = n := by simp [lay]
theorem lay_bytes {xa xb xc : List Int} (ha : ∀ j : Nat, 0 ≤ xa[j]?.getD 0 ∧ xa[j]?.getD 0 ≤ 255) (hb : ∀ j : Nat, 0 ≤ xb[j]?.getD 0 ∧ xb[j]?.getD 0 ≤ 255) (hc : ∀ j : Nat, 0 ≤ xc[j]?.getD 0 ∧ xc[j]?.getD 0 ≤ 255) (n : Nat) : ∀ x ∈ lay xa xb xc n, 0 ≤ x ∧ x ≤ 255 := by
  intro x hx
  simp only [lay, List.mem_map, List.mem_range] at hx
  obtain ⟨j, _, rfl⟩ := hx
  have h1 := ha j
  have h2 := hb j
  have h3 := hc j
  have h4 := Nat.xor_lt_two_pow (n := 8) (Nat.xor_lt_two_pow (n := 8) (show (xa[j]?.getD 0).toNat < 2 ^ 8 by omega) (show (xb[j]?.getD 0).toNat < 2 ^ 8 by omega)) (show (xc[j]?.getD 0).toNat < 2 ^ 8 by omega)
  omega
theorem s4_xor (a b : Nat) : s4 (a ^^^ b) = s4 a ^^^ s4 b := by
  have h1 : (a ^^^ b) / 16 = a / 16 ^^^ b / 16 := Nat.xor_div_two_pow (n := 4)
  have h2 : (a ^^^ b) % 16 = a % 16 ^^^ b % 16 := Nat.xor_mod_two_pow (n := 4)
  have h3 : ∀ i, i < 16 → ∀ j, j < 16 → tab4.getD (i ^^^ j) 0 = tab4.getD i 0 ^^^ tab4.getD j 0 := by decide
  unfold s4
  rw [h1, h2, h3 _ (Nat.mod_lt _ (by decide)) _ (Nat.mod_lt _ (by decide))]
  ac_rfl
theorem sB_xor (r s t a b c : Nat) : sB (r ^^^ s ^^^ t) (a ^^^ b ^^^ c) = sB r a ^^^ sB s b ^^^ sB t c := by
  unfold sB
  rw [show r ^^^ s ^^^ t ^^^ (a ^^^ b ^^^ c) = (r ^^^ a) ^^^ (s ^^^ b) ^^^ (t ^^^ c) by ac_rfl]
  simp only [s4_xor]
theorem crc_lay (xa xb xc : List Int) (r s t : Nat) : ∀ n, n ≤ xa.length → n ≤ xb.length → n ≤ xc.length → crcN (r ^^^ s ^^^ t) (lay xa xb xc n) = crcN r (xa.take n) ^^^ crcN s (xb.take n) ^^^ crcN t (xc.take n)
  | 0, _, _, _ => by simp [lay, crcN]
  | n + 1, h1, h2, h3 => by
    rw [lay_succ, crcN_snoc, crc_lay xa xb xc r s t n (by omega) (by omega) (by omega), take_snoc' h1, take_snoc' h2, take_snoc' h3, crcN_snoc, crcN_snoc, crcN_snoc, Int.toNat_natCast, sB_xor]
theorem crc_one (r : Nat) (xs : List Int) : crcAll r [xs] = crcN r xs := rfl
/-- 1.8, of three byte strings. -/
theorem sum_lay {xa xb xc : List Int} {n : Nat} (ha : ∀ x ∈ xa, 0 ≤ x ∧ x ≤ 255) (hb : ∀ x ∈ xb, 0 ≤ x ∧ x ≤ 255) (hc : ∀ x ∈ xc, 0 ≤ x ∧ x ≤ 255) (h1 : n ≤ xa.length) (h2 : n ≤ xb.length) (h3 : n ≤ xc.length) :
    ∃ A B C : Nat, sumOf [xa.take n] = (A : Int) ∧ sumOf [xb.take n] = (B : Int) ∧ sumOf [xc.take n] = (C : Int) ∧ sumOf [lay xa xb xc n] = ((A ^^^ B ^^^ C : Nat) : Int) ∧ A < 2 ^ 32 ∧ B < 2 ^ 32 ∧ C < 2 ^ 32 := by
  have lt : ∀ {ys : List Int}, (∀ x ∈ ys, 0 ≤ x ∧ x ≤ 255) → 4294967295 ^^^ crcN 4294967295 (ys.take n) < 2 ^ 32 := fun {ys} h =>
    Nat.xor_lt_two_pow (by decide) (crcN_lt (by decide) (fun x hx => h x (List.mem_of_mem_take hx)))
  refine ⟨_, _, _, rfl, rfl, rfl, ?_, lt ha, lt hb, lt hc⟩
  have h := crc_lay xa xb xc 4294967295 4294967295 4294967295 n h1 h2 h3
  rw [show 4294967295 ^^^ 4294967295 ^^^ 4294967295 = 4294967295 by decide] at h
  show ((4294967295 ^^^ crcN 4294967295 (lay xa xb xc n) : Nat) : Int) = ((4294967295 ^^^ crcN 4294967295 (xa.take n) ^^^ (4294967295 ^^^ crcN 4294967295 (xb.take n)) ^^^ (4294967295 ^^^ crcN 4294967295 (xc.take n)) : Nat) : Int)
  rw [h]
  congr 1
  generalize crcN 4294967295 (xa.take n) = x
  generalize crcN 4294967295 (xb.take n) = y
  generalize crcN 4294967295 (xc.take n) = z
  rw [show 4294967295 ^^^ x ^^^ (4294967295 ^^^ y) ^^^ (4294967295 ^^^ z) = (4294967295 ^^^ 4294967295 ^^^ 4294967295) ^^^ (x ^^^ y ^^^ z) by ac_rfl]
  rw [show 4294967295 ^^^ 4294967295 ^^^ 4294967295 = 4294967295 by decide]
theorem min_ints {P : Program} {w : World} (ts : Array TypeId) (t : TypeId) (k k' k'' : IntKind) (x y z : Int) : (Builtin.min_ ts t #[.int k x, .int k' y, .int k'' z]).run P w = .ok (.int k (if z < (if y < x then y else x) then z else (if y < x then y else x))) w := by
  simp [Builtin.min_, Builtin.min2]
theorem min_three (am bm cm : Nat) : ∃ n : Nat, (∀ w : World, (Builtin.min_ #[3, 3, 3] 3 #[.int .i64 (am : Int), .int .i64 (bm : Int), .int .i64 (cm : Int)]).run Tryd.prog w = .ok (.int .i64 (n : Int)) w) ∧ n ≤ am ∧ n ≤ bm ∧ n ≤ cm := by
  refine ⟨min (min am bm) cm, fun w => ?_, by omega, by omega, by omega⟩
  rw [min_ints]
  congr 2
  by_cases h1 : (bm : Int) < am
  · simp only [if_pos h1]
    by_cases h2 : (cm : Int) < bm
    · rw [if_pos h2]; omega
    · rw [if_neg h2]; omega
  · simp only [if_neg h1]
    by_cases h2 : (cm : Int) < am
    · rw [if_pos h2]; omega
    · rw [if_neg h2]; omega
theorem below_on {w a b : World} (h1 : Below w.heap.size w a) (h2 : Below a.heap.size a b) : Below w.heap.size w b := h1.trans (h2.mono h1.size)
theorem below_alloc {w X : World} {o : Obj} (h : Below w.heap.size w X) : Below w.heap.size w (X.alloc o) := h.alloc h.size o
theorem IsBB.drew {w : World} {v : Value} {xss : List (List Int)} (h : IsBB w v xss) : IsBB w.drew v xss := h.below ((Below.refl _ _).drew)
theorem IsBB.alloc {w : World} {v : Value} {xss : List (List Int)} (h : IsBB w v xss) (o : Obj) : IsBB (w.alloc o) v xss := h.below (below_alloc (Below.refl _ _))
theorem isBB_base {w X : World} {v : Value} {xs : List Int} {g : Nat} (h : IsB w v xs) (hb : Below w.heap.size w X) (hg : g = X.heap.size) : IsBB (X.alloc (.cells #[v] 23)) (.slice (some ⟨g, 0, none⟩) 1 1) [xs] := by
  subst hg
  exact isBB_lit X [v] [xs] _ rfl 1 rfl rfl (by decide) (fun j hj => by
    match j, hj with
    | 0, _ => exact h.below hb)
theorem byte_cell {w : World} {b off n cap : Nat} {xs : List Int} (h : IsB w (.slice (some ⟨b, off, none⟩) n cap) xs) {k : Nat} (hk : k < n) : ∃ x : Nat, x < 256 ∧ (xs[k]?.getD 0).toNat = x ∧ w.cell? ⟨b, off + k, none⟩ = some (.int .u8 (x : Int)) := by
  have hb := h.bytes k
  have hl := h.lenEq
  obtain ⟨_, a, cp, hv, _, _, _, hc⟩ := h
  injection hv with e1 e2 e3
  obtain ⟨b', off', ha, hcell⟩ := hc (by omega)
  rw [← e1] at ha
  injection ha with ha
  injection ha with h1 h2
  subst h1 h2
  refine ⟨(xs[k]?.getD 0).toNat, by omega, rfl, ?_⟩
  rw [hcell k (by omega), List.getD_eq_getElem?_getD, Int.toNat_of_nonneg hb.1]
theorem IsB.cut {w : World} {a : Option Addr} {n cap k : Nat} {ys : List Int} (h : IsB w (.slice a n cap) ys) (hk : k ≤ n) : IsB w (.slice a k cap) (ys.take k) := by
  have hl := h.lenEq
  obtain ⟨hb, a', cp, hv, hlc, hm, hz, hc⟩ := h
  injection hv with e1 e2 e3
  subst e1 e3
  have hlen : (ys.take k).length = k := by simp; omega
  refine ⟨fun j => ?_, a, cap, by rw [hlen], by omega, hm, hz, fun hp => ?_⟩
  · by_cases hj : j < k
    · rw [List.getElem?_take_of_lt hj]; exact hb j
    · rw [List.getElem?_eq_none (by omega)]; simp
  · obtain ⟨b, off, ha, hcell⟩ := hc (by omega)
    refine ⟨b, off, ha, fun j hj => ?_⟩
    rw [hcell j (by omega), List.getD_eq_getElem?_getD, List.getD_eq_getElem?_getD, List.getElem?_take_of_lt (by omega)]
theorem IsB.room {w : World} {a : Option Addr} {n cap : Nat} {ys : List Int} (h : IsB w (.slice a n cap) ys) : n ≤ cap := by
  have hl := h.lenEq
  obtain ⟨hb, a', cp, hv, hlc, hm, hz, hc⟩ := h
  injection hv with e1 e2 e3
  omega
theorem addr_of {w : World} {a : Option Addr} {n cap : Nat} {xs : List Int} (h : IsB w (.slice a n cap) xs) (hn : 0 < n) : ∃ b off, a = some ⟨b, off, none⟩ := by
  have hl := h.lenEq
  obtain ⟨_, a', cp, hv, _, _, _, hc⟩ := h
  injection hv with e1 e2 e3
  obtain ⟨b', off', ha, hcell⟩ := hc (by omega)
  exact ⟨b', off', e1.trans ha⟩

theorem sum_is {w : World} {v : Value} {xs : List Int} {S : Nat} (h : IsBB w v [xs]) (ht : Tab w) (hs : sumOf [xs] = (S : Int)) : Calls Tryd.prog 15 #[v] w fun e w' => e = .returned (.int .u32 (S : Int)) ∧ w' = w := by
  have := sum_calls h ht
  rwa [hs] at this

end Go.Proofs.YtmfpkoegpoboiabDoor
