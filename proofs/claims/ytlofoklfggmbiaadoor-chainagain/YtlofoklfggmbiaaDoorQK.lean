/- Disks in words: what lasts, what is cached, what the calls make of it; the document's lists; that both tell the same. Flush, Crash, Image and Load in words; the document's. -/
import Derived.Below
namespace Go.Proofs.YtlofoklfggmbiaaDoor

/-- A sector's bytes. -/
def IsSec (s : List Int) : Prop := s.length = 512 ∧ ∀ x ∈ s, 0 ≤ x ∧ x ≤ 255
def zsec : List Int := List.replicate 512 0
theorem zsec_is : IsSec zsec := ⟨List.length_replicate, fun x hx => by have := List.eq_of_mem_replicate hx; omega⟩

/-- A disk: what lasts, the writes since the last Flush, the acts. -/
structure AD where
 la : List (List Int)
 wr : Nat → List (List Int)
 rd : Int
 wt : Int
 fl : Int
def AD.now (D : AD) (i : Nat) : List Int := (D.wr i).getLast?.getD (D.la.getD i zsec)
def updF {α : Type} (f : Nat → α) (i : Nat) (x : α) : Nat → α := fun j => if j = i then x else f j
theorem updF_same {α : Type} (f : Nat → α) (i : Nat) (x : α) : updF f i x i = x := by simp [updF]
theorem updF_other {α : Type} (f : Nat → α) {i j : Nat} (x : α) (h : j ≠ i) : updF f i x j = f j := by simp [updF, h]
/-- Disks that may be. -/
structure AD.Ok (D : AD) : Prop where
 lo : 2 ≤ D.la.length
 hi : D.la.length ≤ 65536
 las : ∀ s ∈ D.la, IsSec s
 wrs : ∀ i, ∀ s ∈ D.wr i, IsSec s
 out : ∀ i, D.la.length ≤ i → D.wr i = []
theorem AD.Ok.now {D : AD} (h : D.Ok) {i : Nat} (hi : i < D.la.length) : IsSec (D.now i) := by
 unfold AD.now
 cases hw : (D.wr i).getLast? with
 | none =>
   simp only [Option.getD_none]
   rw [List.getD_eq_getElem?_getD, List.getElem?_eq_getElem hi]
   exact h.las _ (List.getElem_mem hi)
 | some s => exact h.wrs i s (List.mem_of_getLast? hw)
def AD.read (D : AD) : AD := { D with rd := D.rd + 1 }
def AD.write (D : AD) (i : Nat) (s : List Int) : AD := { D with wr := updF D.wr i (D.wr i ++ [s]), wt := D.wt + 1 }
/-- A bit turned over. -/
def turnB (s : List Int) (bit : Nat) : List Int := s.set (bit / 8) (Int.ofNat ((s.getD (bit / 8) 0).toNat ^^^ 2 ^ (bit % 8)))
def AD.turn (D : AD) (i bit : Nat) : AD := { D with la := D.la.set i (turnB (D.la.getD i zsec) bit), wr := updF D.wr i ((D.wr i).map (turnB · bit)) }
theorem turnB_is {s : List Int} (h : IsSec s) {bit : Nat} (hb : bit < 4096) : IsSec (turnB s bit) := by
 refine ⟨by simp [turnB, h.1], fun x hx => ?_⟩
 unfold turnB at hx
 rcases List.mem_or_eq_of_mem_set hx with hx | hx
 · exact h.2 x hx
 · have hj : bit / 8 < s.length := by rw [h.1]; omega
   have hm := h.2 _ (List.getElem_mem hj)
   rw [List.getD_eq_getElem?_getD, List.getElem?_eq_getElem hj, Option.getD_some] at hx
   have h1 : (s[bit / 8].toNat) < 2 ^ 8 := by omega
   have h2 : 2 ^ (bit % 8) < 2 ^ 8 := Nat.pow_lt_pow_right (by omega) (by omega)
   have h3 := Nat.xor_lt_two_pow h1 h2
   subst hx
   generalize (s[bit / 8].toNat ^^^ 2 ^ (bit % 8)) = z at h3
   show 0 ≤ (z : Int) ∧ (z : Int) ≤ 255
   omega
theorem AD.Ok.read {D : AD} (h : D.Ok) : D.read.Ok := ⟨h.lo, h.hi, h.las, h.wrs, h.out⟩
theorem AD.Ok.write {D : AD} (h : D.Ok) {i : Nat} (hi : i < D.la.length) {s : List Int} (hs : IsSec s) : (D.write i s).Ok := by
 refine ⟨h.lo, h.hi, h.las, fun j t ht => ?_, fun j hj => ?_⟩
 · by_cases e : j = i
   · subst e
     simp only [AD.write, updF_same] at ht
     rcases List.mem_append.1 ht with ht | ht
     · exact h.wrs j t ht
     · rw [List.mem_singleton.1 ht]; exact hs
   · simp only [AD.write, updF_other _ _ e] at ht
     exact h.wrs j t ht
 · have hj' : D.la.length ≤ j := hj
   simp only [AD.write]
   rw [updF_other _ _ (by omega)]
   exact h.out j hj'
theorem AD.Ok.turn {D : AD} (h : D.Ok) {i bit : Nat} (hi : i < D.la.length) (hb : bit < 4096) : (D.turn i bit).Ok := by
 have hla : (D.turn i bit).la.length = D.la.length := by simp [AD.turn]
 refine ⟨by rw [hla]; exact h.lo, by rw [hla]; exact h.hi, fun s hs => ?_, fun j t ht => ?_, fun j hj => ?_⟩
 · simp only [AD.turn] at hs
   rcases List.mem_or_eq_of_mem_set hs with hs | hs
   · exact h.las s hs
   · rw [hs, List.getD_eq_getElem?_getD, List.getElem?_eq_getElem hi]
     exact turnB_is (h.las _ (List.getElem_mem hi)) hb
 · by_cases e : j = i
   · subst e
     simp only [AD.turn, updF_same] at ht
     obtain ⟨u, hu, rfl⟩ := List.mem_map.1 ht
     exact turnB_is (h.wrs j u hu) hb
   · simp only [AD.turn, updF_other _ _ e] at ht
     exact h.wrs j t ht
 · rw [hla] at hj
   simp only [AD.turn]
   rw [updF_other _ _ (by omega)]
   exact h.out j hj

end Go.Proofs.YtlofoklfggmbiaaDoor

namespace Go.Proofs.YtlofoklfggmbiaaDoor

/-- The sectors that have writes, rising. -/
def AD.keys (D : AD) : List Nat := (List.range D.la.length).filter fun i => decide (0 < (D.wr i).length)
/-- Which of the writes lasts. -/
def pickW (ws : List (List Int)) (f : Int) : List Int := ws.getD ((min f ws.length).toNat - 1) zsec
def AD.laAfter (D : AD) (fate : Nat → Int) : Nat → List (List Int)
 | 0 => D.la
 | k + 1 => if 1 ≤ min (fate k) (D.wr (D.keys.getD k 0)).length then (D.laAfter fate k).set (D.keys.getD k 0) (pickW (D.wr (D.keys.getD k 0)) (fate k)) else D.laAfter fate k
theorem pickW_mem {ws : List (List Int)} {f : Int} (h : 1 ≤ min f ws.length) : pickW ws f ∈ ws := by
 unfold pickW
 have : (min f ws.length).toNat - 1 < ws.length := by omega
 rw [List.getD_eq_getElem?_getD, List.getElem?_eq_getElem this]
 exact List.getElem_mem this
theorem AD.Ok.after {D : AD} (h : D.Ok) (fate : Nat → Int) : ∀ k, ∀ s ∈ D.laAfter fate k, IsSec s
 | 0 => h.las
 | k + 1 => by
   intro s hs
   rw [AD.laAfter] at hs
   split at hs
   · rename_i hc
     rcases List.mem_or_eq_of_mem_set hs with hs | hs
     · exact h.after fate k s hs
     · rw [hs]; exact h.wrs _ _ (pickW_mem hc)
   · exact h.after fate k s hs
end Go.Proofs.YtlofoklfggmbiaaDoor
