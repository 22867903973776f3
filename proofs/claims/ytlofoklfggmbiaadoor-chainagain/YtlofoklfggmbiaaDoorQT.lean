/- The set bits of a word, rising: what 'w &= w - 1' leaves. Of no program. first, List, TakeAll. List, TakeAll, Take. The free numbers as a list of those whose bit is set. -/
import Derived.Test.YtlofoklfggmbiaaDoorQO
import Derived.Lib.TrailingZeros
import Derived.Test.YtlofoklfggmbiaaDoorQR
namespace Go.Proofs.YtlofoklfggmbiaaDoor

/-- The set bits among the lowest n, rising. -/
def lst (x : Nat) : Nat → List Nat
 | 0 => []
 | n + 1 => lst x n ++ (if x.testBit n then [n] else [])
theorem lst_zero : ∀ n, lst 0 n = []
 | 0 => rfl
 | n + 1 => by simp [lst, lst_zero n]
theorem lst_none {x : Nat} : ∀ {n : Nat}, (∀ j, j < n → x.testBit j = false) → lst x n = []
 | 0, _ => rfl
 | n + 1, h => by
   simp only [lst]
   rw [lst_none (fun j hj => h j (by omega)), h n (by omega)]
   rfl
theorem lst_cons {x y k : Nat} (hlow : ∀ j, j < k → x.testBit j = false) (hk : x.testBit k = true) (hy : ∀ j, j ≤ k → y.testBit j = false) (hup : ∀ j, k < j → y.testBit j = x.testBit j) : ∀ {n : Nat}, k < n → lst x n = k :: lst y n
 | 0, h => by omega
 | n + 1, h => by
   simp only [lst]
   by_cases e : k = n
   · subst e
     rw [lst_none hlow, lst_none (fun j hj => hy j (by omega)), hk, hy k (Nat.le_refl _)]
     rfl
   · rw [lst_cons hlow hk hy hup (n := n) (by omega), hup n (by omega)]
     rfl
theorem lst_len (x : Nat) : ∀ n, (lst x n).length = pc n x
 | 0 => rfl
 | n + 1 => by
   simp only [lst, List.length_append]
   rw [lst_len x n, show n + 1 = n + 1 from rfl, pc_add n 1 x]
   congr 1
   rw [Nat.testBit_eq_decide_div_mod_eq]
   simp only [pc]
   by_cases h : x / 2 ^ n % 2 = 1
   · simp [h]
   · simp [h]; omega
/-- The lowest set bit. -/
theorem ctz_spec {x : Nat} (h0 : x ≠ 0) (hx : x < 18446744073709551616) : ∃ m, x = 2 ^ Lib.ctz 64 x * (2 * m + 1) ∧ Lib.ctz 64 x < 64 := by
 unfold Lib.ctz
 rw [if_neg h0]
 exact Lib.ctzFrom_spec 64 x (by omega) hx
theorem testBit_mul {k m j : Nat} : (2 ^ k * m).testBit j = (decide (k ≤ j) && m.testBit (j - k)) := by
 rw [Nat.testBit_two_pow_mul]
theorem low_bits {x : Nat} (h0 : x ≠ 0) (hx : x < 18446744073709551616) : lst x 64 = Lib.ctz 64 x :: lst (x &&& (x - 1)) 64 ∧ (x &&& (x - 1)) < x := by
 obtain ⟨m, hm, hk⟩ := ctz_spec h0 hx
 generalize Lib.ctz 64 x = k at *
 have hp := Nat.two_pow_pos k
 have hxb : ∀ j, x.testBit j = (decide (k ≤ j) && (2 * m + 1).testBit (j - k)) := fun j => by rw [hm]; exact testBit_mul
 have hand : x &&& (x - 1) = 2 ^ (k + 1) * m := by
  have e1 : x - 1 = 2 ^ k * (2 * m) + (2 ^ k - 1) := by
   rw [hm, Nat.mul_add, Nat.mul_one]; omega
  apply Nat.eq_of_testBit_eq
  intro j
  rw [Nat.testBit_and, hxb j, e1, testBit_mul, Nat.testBit_two_pow_mul_add _ (by omega)]
  by_cases hj : j < k
  · have : ¬ k ≤ j := by omega
    have h2 : ¬ k + 1 ≤ j := by omega
    simp [this, h2]
  · rw [if_neg hj]
    by_cases e : j = k
    · subst e
      simp
      omega
    · have h1 : k ≤ j := by omega
      have h2 : k + 1 ≤ j := by omega
      obtain ⟨d, rfl⟩ : ∃ d, j = k + 1 + d := ⟨j - k - 1, by omega⟩
      have e3 : k + 1 + d - k = d + 1 := by omega
      have e4 : k + 1 + d - (k + 1) = d := by omega
      rw [e3, e4, Nat.testBit_succ, Nat.testBit_succ]
      have e5 : (2 * m + 1) / 2 = m := by omega
      have e6 : 2 * m / 2 = m := by omega
      rw [e5, e6]
      simp
      omega
 refine ⟨lst_cons (k := k) ?_ ?_ ?_ ?_ hk, ?_⟩
 · intro j hj
   rw [hxb]
   have : ¬ k ≤ j := by omega
   simp [this]
 · rw [hxb]; simp
 · intro j hj
   rw [hand, testBit_mul]
   have : ¬ k + 1 ≤ j := by omega
   simp [this]
 · intro j hj
   rw [hand, testBit_mul, hxb]
   obtain ⟨d, rfl⟩ : ∃ d, j = k + 1 + d := ⟨j - k - 1, by omega⟩
   have e3 : k + 1 + d - k = d + 1 := by omega
   have e4 : k + 1 + d - (k + 1) = d := by omega
   rw [e3, e4, Nat.testBit_succ]
   have e5 : (2 * m + 1) / 2 = m := by omega
   rw [e5]
   have h1 : k ≤ k + 1 + d := by omega
   have h2 : k + 1 ≤ k + 1 + d := by omega
   simp [h1, h2]
 · rw [hand]
   have e : 2 ^ (k + 1) * m = 2 ^ k * (2 * m) := by rw [Nat.pow_succ, Nat.mul_assoc]
   rw [e]
   have : 2 ^ k * (2 * m) < 2 ^ k * (2 * m + 1) := Nat.mul_lt_mul_of_pos_left (by omega) hp
   omega
/-- The free numbers of a word that stands as the i-th one. -/
def wordF (fr i x : Nat) : List Nat := (lst x 64).map fun b => fr + i * 64 + b
/-- All free numbers, from the i-th word on. -/
def allF (fr : Nat) : Nat → List Nat → List Nat
 | _, [] => []
 | i, x :: t => wordF fr i x ++ allF fr (i + 1) t
theorem allF_len (fr : Nat) : ∀ (ws : List Nat) (i : Nat), (allF fr i ws).length = (ws.map (pc 64)).sum
 | [], _ => rfl
 | x :: t, i => by simp [allF, wordF, lst_len, allF_len fr t (i + 1)]
theorem allF_append (fr : Nat) : ∀ (a b : List Nat) (i : Nat), allF fr i (a ++ b) = allF fr i a ++ allF fr (i + a.length) b
 | [], b, i => by simp [allF]
 | x :: t, b, i => by
   simp only [List.cons_append, allF]
   rw [allF_append fr t b (i + 1), List.append_assoc]
   congr 3
   simp; omega
theorem allF_take (fr : Nat) {ws : List Nat} {k : Nat} (h : k < ws.length) : allF fr 0 (ws.take (k + 1)) = allF fr 0 (ws.take k) ++ wordF fr k (ws.getD k 0) := by
 have e : (ws.take k).length = k := by simp; omega
 have hg : ws.getD k 0 = ws[k] := by rw [List.getD_eq_getElem?_getD, List.getElem?_eq_getElem h]; rfl
 rw [List.take_add_one, allF_append, List.getElem?_eq_getElem h, e, Nat.zero_add, hg]
 simp only [Option.toList_some, allF, List.append_nil]
end Go.Proofs.YtlofoklfggmbiaaDoor

namespace Go.Proofs.YtlofoklfggmbiaaDoor
open Go.RowKit

theorem infoI : (Tryd.prog.info? 3).map (fun i => (i.zero, i.size, i.bytes)) = some (some (.int .i64 0), 1, 8) := by kernel_rfl
theorem info_part {t : TypeId} {z : Value} {s b : Nat} (h : (Tryd.prog.info? t).map (fun i => (i.zero, i.size, i.bytes)) = some (some z, s, b)) : ∃ i, Tryd.prog.info? t = some i ∧ i.zero = some z ∧ i.size = s ∧ i.bytes = b := by
 cases hi : Tryd.prog.info? t with
 | none => rw [hi] at h; cases h
 | some i =>
   rw [hi] at h
   simp only [Option.map_some, Option.some.injEq, Prod.mk.injEq] at h
   exact ⟨i, rfl, h.1, h.2.1, h.2.2⟩
/-- A list of numbers as Go's. -/
def iV (l : List Nat) : List Value := l.map fun n : Nat => Value.int .i64 (n : Int)
theorem iV_len (l : List Nat) : (iV l).length = l.length := by simp [iV]
theorem Tz.below {w w' : World} (h : Tz w) (hb : Below w.heap.size w w') : Tz w' := fun j hj => by
 have := h j hj
 exact (hb.cell (p := ⟨3, j, none⟩) (World.block_lt_of_cell? _ _ this)).trans this
theorem and_pred (x : Nat) (h0 : x ≠ 0) (hx : x < 18446744073709551616) : bits .and .u64 (x : Int) ((x : Int) - 1) = ((x &&& (x - 1) : Nat) : Int) := by
 have e : (x : Int) - 1 = ((x - 1 : Nat) : Int) := by omega
 rw [e]
 exact and_n x (x - 1) hx (by omega)
theorem app_one {α : Type} {acc l l2 r : List α} {q : α} (h : acc ++ l = r) (h2 : l = q :: l2) : Hid (acc ++ [q] ++ l2 = r) := by
 show _ = _
 rw [← h, h2, List.append_assoc, List.singleton_append]
theorem wordF_zero (fr i : Nat) : wordF fr i 0 = [] := by unfold wordF; rw [lst_zero]; rfl
set_option maxRecDepth 100000 in
set_option maxHeartbeats 4000000 in
theorem first_calls {w : World} {B g gw fr to_ : Nat} {ws : List Nat} (h : Sp w B g gw fr to_ ws) (hT : Tz w) (k : Nat) (hk : k ≤ 65536) :
 Calls Tryd.prog 88 #[.pointer (some ⟨g, 0, none⟩), .int .i64 (k : Int)] w fun e w' => ∃ v, e = .returned v ∧ Row w' w.heap.size 3 v (iV ((allF fr 0 ws).take k)) ∧ Below w.heap.size w w' := by
 obtain ⟨i0, hi, hz0, hz1, hz2⟩ := info_part infoI
 have HV : Hid (∀ W, Below w.heap.size w W → ∃ c, W.cell? ⟨g, 2, none⟩ = some (.slice (some ⟨gw, 0, none⟩) ws.length c) ∧ ws.length ≤ c ∧ c ≤ 9223372036854775807 ∧ ∀ i, i < ws.length → W.cell? ⟨gw, i, none⟩ = some (.int .u64 ((ws.getD i 0 : Nat) : Int))) := fun W hW => by
  obtain ⟨c, _, _, c2, h1, h2, _, _, _, h3⟩ := (h.below hW).view
  exact ⟨c, c2, h1, h2, h3⟩
 have HWD : Hid (∀ i, i < ws.length → ws.getD i 0 < 18446744073709551616) := fun i hi => by
  rw [List.getD_eq_getElem?_getD, List.getElem?_eq_getElem hi]
  exact h.wd _ (List.getElem_mem hi)
 have HLW : Hid (∀ W i x, Below w.heap.size w W → i ≤ 1024 → x ≠ 0 → x < 18446744073709551616 → Calls Tryd.prog 103 #[.pointer (some ⟨g, 0, none⟩), .int .i64 ((i : Nat) : Int), .int .u64 ((x : Nat) : Int)] W fun e w' => e = .returned (.int .i64 ((fr + i * 64 + Lib.ctz 64 x : Nat) : Int)) ∧ Below W.heap.size W w') := fun W i x hW h1 h2 h3 => by
  obtain ⟨_, _, hc⟩ := ctz_spec h2 h3
  exact lowest_calls (h.below hW) (hT.below hW) i x h1 h2 h3 hc
 have hl := h.len
 have hr := h.rng
 have hLb : ws.length ≤ 1024 := by omega
 obtain ⟨L, hL⟩ : ∃ L, L = ws.length := ⟨_, rfl⟩
 rw [← hL] at HV HWD hLb
 have HL := hide hL
 obtain ⟨c, c2, hLc, hcm, _⟩ := unhide HV w (Below.refl _ _)
 have HMK : Hid (∀ w1, w.grownBy w1 none → w1.cell? ⟨g, 2, none⟩ = some (.slice (some ⟨gw, 0, none⟩) L c)) := fun w1 h1 => h1.cell c2 (by simp)
 clear h hT hl hL
 go_enter Tryd.func88, Tryd.ntmps88
 go_wp2_with (at_make; refine wpList_make_own _ rfl _ _ 23 rfl w.heap.size 3 i0 (.int .i64 0) 1 Tryd.underlying23 hi hz0 hz1 .i64 .i64 _ k rfl rfl rfl (by rw [hz2]; omega) (by unfold maxLen; omega) (Nat.le_refl _) ?_; intro w1 hown hgrow; have hc21 := unhide HMK w1 hgrow)
 have hb1 : Below w.heap.size w w1 := (Below.refl _ _).grown hgrow (Nat.le_refl _) (fun b hb => by cases hb)
 have HR1 := hide (show Row w1 w.heap.size 3 (.slice (some ⟨w.heap.size, 0, none⟩) 0 k) (iV []) from hown)
 clear hown hgrow hc21 c2
 go_loopw [5, 15] (fun lv iv W => ∃ (i : Nat) (acc : List Nat), i ≤ L ∧ iv = .int .i64 (i : Int) ∧ acc.length ≤ k ∧ Hid (acc = allF fr 0 (ws.take i)) ∧ Row W w.heap.size 3 lv (iV acc) ∧ Below w.heap.size w W) (fun _ i _ => L - (intOf i).toNat)
 case atStart => exact ⟨0, [], by omega, rfl, by simp, by show _ = _; rfl, HR1.out, hb1⟩
 case round =>
  clear HR1 hb1
  obtain ⟨i, acc, hiL, rfl, hak, HA, hrow, hb⟩ := hrel
  by_cases hlt : i < L
  · obtain ⟨c', _, _, _, hcells⟩ := unhide HV wr hb
    have hci := hcells i hlt
    have hwi := unhide HWD i hlt
    have hat := allF_take fr (ws := ws) (k := i) (by rw [← HL.out]; exact hlt)
    obtain ⟨x, hx⟩ : ∃ x, x = ws.getD i 0 := ⟨_, rfl⟩
    rw [← hx] at hci hwi hat
    have HAT := hide hat
    clear hcells hx hat
    go_wp2_with fail
    go_loopw [5, 7] (fun lv xv W => ∃ (y : Nat) (acc : List Nat), xv = .int .u64 (y : Int) ∧ y < 18446744073709551616 ∧ acc.length ≤ k ∧ Hid (acc ++ wordF fr i y = allF fr 0 (ws.take (i + 1))) ∧ Row W w.heap.size 3 lv (iV acc) ∧ Below w.heap.size w W) (fun _ y _ => (intOf y).toNat)
    case atStart => exact ⟨x, acc, rfl, hwi, hak, by show _ = _; rw [HAT.out, HA.out], hrow, hb⟩
    case round =>
     clear hrow hb hak HA hwi hci HAT
     obtain ⟨y, acc, rfl, hy, hak, HA, hrow, hb⟩ := hrel
     have hsz := hb.size
     obtain ⟨al, cl, hvl⟩ := hrow.shape
     rw [iV_len] at hvl
     obtain ⟨m, hm⟩ : ∃ m, m = acc.length := ⟨_, rfl⟩
     rw [← hm] at hvl hak
     subst hvl
     have HM := hide hm
     clear hm
     by_cases hy0 : y = 0
     · have hyb : ((y : Int) != 0) = false := by rw [hy0]; rfl
       have HA2 : Hid (acc = allF fr 0 (ws.take (i + 1))) := by
        show _ = _
        have := HA.out
        rw [hy0, wordF_zero, List.append_nil] at this
        exact this
       clear hy0 HA
       go_wp2
       go_roundw
       case rel => exact ⟨i + 1, acc, by omega, by go_num, by rw [← HM.out]; exact hak, HA2, hrow, hb⟩
       case measure => simp [intOf]; omega
     · have hyb : ((y : Int) != 0) = true := by simpa using hy0
       by_cases hmk : m = k
       · have hmb : ((m : Int) == (k : Int)) = true := by rw [hmk]; simp
         have HE : Hid ((allF fr 0 ws).take k = acc) := by
          show _ = _
          have e := List.take_append_drop (i + 1) ws
          have e2 : allF fr 0 ws = allF fr 0 (ws.take (i + 1)) ++ allF fr (0 + (ws.take (i + 1)).length) (ws.drop (i + 1)) := by rw [← allF_append, e]
          rw [e2, ← HA.out, List.append_assoc, List.take_append_of_le_length (by rw [← HM.out]; omega), List.take_of_length_le (by rw [← HM.out]; omega)]
         clear hmk hy0
         go_wp2
         go_ret
         exact ⟨_, rfl, by rw [HE.out]; exact hrow, hb⟩
       · have hmb : ((m : Int) == (k : Int)) = false := by simp only [beq_eq_false_iff_ne, ne_eq]; omega
         have HLC := hide (unhide HLW wr i y hb (by omega) hy0 hy)
         obtain ⟨hlow, hlt2⟩ := low_bits hy0 hy
         have hand := and_pred y hy0 hy
         obtain ⟨z, hz⟩ : ∃ z, z = y &&& (y - 1) := ⟨_, rfl⟩
         rw [← hz] at hlow hlt2 hand
         obtain ⟨q, hq⟩ : ∃ q, q = fr + i * 64 + Lib.ctz 64 y := ⟨_, rfl⟩
         rw [← hq] at HLC
         have HW2 : Hid (wordF fr i y = q :: wordF fr i z) := by
          show _ = _
          unfold wordF
          rw [hlow, List.map_cons, hq]
         have hmk2 : m < k := by omega
         clear hz hq hlow hy0 hmk
         go_wp2_with fail
         refine (unhide HLC).mono ?_
         rintro e w2 ⟨rfl, hb2⟩
         have hr2 := hrow.out (Out.of_below (B := 0) (S := 0) hb2) fun _ _ => Or.inr (Nat.zero_le _)
         have hb2' := hb.trans (hb2.mono hsz)
         have hsz2 := Nat.le_trans hsz hb2.size
         have HIL := hide (iV_len acc)
         clear hrow hb
         go_wp2_with (at_builtin; refine wpList_append_own _ rfl _ _ 23 rfl w.heap.size 3 i0 (.int .i64 0) 1 8 Tryd.underlying23 hi hz0 hz1 hz2 rfl (by decide) _ _ _ rfl (World.ownsRow.alloc hr2 _) ⟨w2.heap.size, 0, none⟩ 1 1 [.int .i64 (q : Int)] rfl rfl (cell_one_new _ _ _) (by intro u hu; simp at hu; subst hu; rfl) (by have := HIL.out; have := HM.out; unfold maxLen; omega) (by have := HIL.out; have := HM.out; omega) (by simp; omega) ?_; intro v3 w3 hr3 hg3 _)
         have hE : (iV acc ++ [Value.int .i64 (q : Int)]) = iV (acc ++ [q]) := by simp [iV]
         have hr4 : Row w3 w.heap.size 3 v3 (iV (acc ++ [q])) := by
          rw [← hE]
          unfold Row
          rw [List.length_append]
          exact hr3
         have hb3 : Below w.heap.size w w3 := (hb2'.alloc hsz2 _).grown hg3 (by simp; omega) fun b hb => (hr2.lt b hb).1
         have hlz : (acc ++ [q]).length ≤ k := by have := HM.out; rw [List.length_append, List.length_singleton]; omega
         have hz64 : z < 18446744073709551616 := by omega
         have hme : (intOf (Value.int .u64 (z : Int))).toNat < (intOf (Value.int .u64 (y : Int))).toNat := by
          show (z : Int).toNat < (y : Int).toNat
          omega
         refine ⟨⟨z, acc ++ [q], rfl, hz64, hlz, ?_, hr4, hb3⟩, hme⟩
         exact app_one HA.out HW2.out
  · have HAE : Hid (acc = allF fr 0 ws) := by
     show _ = _
     have := HA.out
     rw [show i = L by omega, HL.out, List.take_length] at this
     exact this
    go_wp2
    go_ret
    exact ⟨_, rfl, by rw [← HAE.out, List.take_of_length_le hak]; exact hrow, hb⟩
end Go.Proofs.YtlofoklfggmbiaaDoor

namespace Go.Proofs.YtlofoklfggmbiaaDoor
open Go.RowKit

theorem freeN_allF (fr : Nat) (ws : List Nat) : (allF fr 0 ws).length = freeN ws := allF_len fr ws 0
theorem Sp.free_le {w : World} {B g gw fr to_ : Nat} {ws : List Nat} (h : Sp w B g gw fr to_ ws) : freeN ws ≤ 65536 := by
 have h1 := freeN_le ws
 have h2 := h.len
 have h3 := h.rng
 omega
/-- Each of these is claimed. -/
def claimAll (fr to_ : Nat) (ws : List Nat) (l : List Nat) : List Nat := l.foldl (fun (ws : List Nat) (n : Nat) => claimW fr to_ ws (n : Int)) ws
theorem claimAll_take {fr to_ : Nat} {ws l : List Nat} {k : Nat} (h : k < l.length) : claimAll fr to_ ws (l.take (k + 1)) = claimW fr to_ (claimAll fr to_ ws (l.take k)) ((l.getD k 0 : Nat) : Int) := by
 unfold claimAll
 rw [List.take_add_one, List.foldl_append, List.getElem?_eq_getElem h, List.getD_eq_getElem?_getD, List.getElem?_eq_getElem h]
 rfl
set_option maxRecDepth 100000 in
set_option maxHeartbeats 4000000 in
theorem takeAll_calls {w : World} {B g gw fr to_ : Nat} {ws : List Nat} (h : Sp w B g gw fr to_ ws) (hT : Tz w) (k : Nat) (hk : k ≤ freeN ws) :
 Calls Tryd.prog 64 #[.pointer (some ⟨g, 0, none⟩), .int .i64 (k : Int)] w fun e w' => ∃ v, e = .returned (.tuple #[v, .bool true]) ∧ Row w' w.heap.size 3 v (iV ((allF fr 0 ws).take k)) ∧ Sp w' B g gw fr to_ (claimAll fr to_ ws ((allF fr 0 ws).take k)) ∧ w.grownBy w' (some gw) := by
 have HF := hide (free_calls h)
 have hk2 := Nat.le_trans hk h.free_le
 have HR := hide (first_calls h hT k hk2)
 have hlen : ((allF fr 0 ws).take k).length = k := by rw [List.length_take, freeN_allF]; omega
 obtain ⟨l, hl⟩ : ∃ l, l = (allF fr 0 ws).take k := ⟨_, rfl⟩
 rw [← hl] at HR hlen ⊢
 have H := hide h
 have HLN := hide hlen
 have hgw : gw < w.heap.size := by
  obtain ⟨c, _, _, _, _, _, _, hr, _, _⟩ := h.view
  exact (hr.lt gw rfl).2
 have hfk : ((freeN ws : Nat) : Int) ≥ (k : Int) := by omega
 obtain ⟨f, hf⟩ : ∃ f, f = freeN ws := ⟨_, rfl⟩
 rw [← hf] at HF hk hfk
 clear h hT hl hlen hf
 go_enter Tryd.func64, Tryd.ntmps64
 go_wp2_with fail
 refine (unhide HF).mono ?_
 rintro e w1 ⟨rfl, hw1⟩
 obtain rfl := hw1.symm
 clear hw1
 go_wp2_with fail
 refine (unhide HR).mono ?_
 rintro e w1 ⟨v, rfl, hr1, hb1⟩
 obtain ⟨al, cl, hvl⟩ := hr1.shape
 rw [iV_len, HLN.out] at hvl
 subst hvl
 go_wp2_with fail
 go_loopw [22] (fun iv W => ∃ (i : Nat), i ≤ k ∧ iv = .int .i64 (i : Int) ∧ Sp W B g gw fr to_ (claimAll fr to_ ws (l.take i)) ∧ Row W w.heap.size 3 (.slice al k cl) (iV l) ∧ w.grownBy W (some gw)) (fun i _ => k - (intOf i).toNat)
 case atStart => exact ⟨0, by omega, rfl, (unhide H).below hb1, hr1, grown_of hb1 _⟩
 case round =>
  obtain ⟨i, hik, rfl, hs, hr, hg⟩ := hrel
  by_cases hlt : i < k
  · have hil : i < l.length := by rw [HLN.out]; exact hlt
    have hct := claimAll_take (fr := fr) (to_ := to_) (ws := ws) hil
    obtain ⟨gl, c3, hv3, h3c, h3m, _, hglw⟩ := hr.head (by rw [iV_len]; omega)
    injection hv3 with e1 e2 e3
    subst e1 e3
    rw [iV_len, HLN.out] at h3c
    have hcell : wr.cell? ⟨gl, i, none⟩ = some (.int .i64 ((l.getD i 0 : Nat) : Int)) := by
     rw [hr.cellAt (by rw [iV_len]; exact hil)]
     simp [iV, List.getElem?_map, List.getD_eq_getElem?_getD, List.getElem?_eq_getElem hil]
    obtain ⟨n, hn⟩ : ∃ n, n = l.getD i 0 := ⟨_, rfl⟩
    rw [← hn] at hcell hct
    have HCL := hide (claim_calls hs (n : Int))
    have HCT := hide hct
    have HR2 := hide hr
    have hgl : gl ≠ gw := by
     have := (hr.lt gl rfl).1
     omega
    clear hn hct hs hr e2
    go_wp2_with fail
    refine (unhide HCL).mono ?_
    rintro e w2 ⟨rfl, hs2, hg2⟩
    rw [← HCT.out] at hs2
    have hr2 := (unhide HR2).kept hg2 (Or.inr (by simpa [Value.ownBlock] using hgl))
    go_wp2
    go_roundw
    case rel => exact ⟨i + 1, by omega, by go_num, hs2, hr2, hg.trans hg2⟩
    case measure => simp [intOf]; omega
  · have hie : i = k := by omega
    have hs2 : Sp wr B g gw fr to_ (claimAll fr to_ ws l) := by
     rw [hie, ← HLN.out, List.take_length] at hs
     exact hs
    clear hie hs
    go_wp2
    go_ret2
    exact ⟨_, rfl, hr, hs2, hg⟩
set_option maxHeartbeats 1000000 in
theorem takeAll_no {w : World} {B g gw fr to_ : Nat} {ws : List Nat} (h : Sp w B g gw fr to_ ws) (n : Int) (hn : n < 0 ∨ ((freeN ws : Nat) : Int) < n) :
 Calls Tryd.prog 64 #[.pointer (some ⟨g, 0, none⟩), .int .i64 n] w fun e w' => e = .returned (.tuple #[.slice none 0 0, .bool false]) ∧ w' = w := by
 have HF := hide (free_calls h)
 clear h
 generalize freeN ws = f at *
 by_cases h1 : n < 0
 · go_enter Tryd.func64, Tryd.ntmps64
   go_wp2
   go_ret2
   exact ⟨rfl, rfl⟩
 · have h2 : (f : Int) < n := by omega
   clear hn
   go_enter Tryd.func64, Tryd.ntmps64
   go_wp2_with fail
   refine (unhide HF).mono ?_
   rintro e w1 ⟨rfl, hw1⟩
   obtain rfl := hw1.symm
   clear hw1
   go_wp2
   go_ret2
   exact ⟨rfl, rfl⟩
end Go.Proofs.YtlofoklfggmbiaaDoor

namespace Go.Proofs.YtlofoklfggmbiaaDoor
open Go.RowKit

theorem lst_filter (x : Nat) : ∀ n, lst x n = (List.range n).filter x.testBit
 | 0 => rfl
 | n + 1 => by
   simp only [lst]
   rw [lst_filter x n, List.range_succ, List.filter_append]
   congr 1
   by_cases h : x.testBit n = true <;> simp [h]
/-- The numbers below n whose bit is set, counted from the first one on. -/
def setB (ws : List Nat) (n : Nat) : List Nat := (List.range n).filter (bitAt ws)
theorem word_set (fr k : Nat) (ws : List Nat) (n : Nat) (hn : n ≤ 64) : ((lst (ws.getD k 0) n).map fun b => fr + k * 64 + b) = (((List.range n).map (64 * k + ·)).filter (bitAt ws)).map (fr + ·) := by
 rw [lst_filter, List.filter_map, List.map_map]
 have hf : (List.range n).filter (ws.getD k 0).testBit = (List.range n).filter (bitAt ws ∘ (64 * k + ·)) := by
  apply List.filter_congr
  intro b hb
  have hb := List.mem_range.1 hb
  simp only [Function.comp, bitAt]
  rw [show (64 * k + b) / 64 = k by omega, show (64 * k + b) % 64 = b by omega]
 rw [hf]
 apply List.map_congr_left
 intro b _
 simp only [Function.comp]
 omega
theorem setB_add (ws : List Nat) (m n : Nat) : setB ws (m + n) = setB ws m ++ ((List.range n).map (m + ·)).filter (bitAt ws) := by
 unfold setB
 rw [List.range_add, List.filter_append]
theorem wordF_set (fr k : Nat) (ws : List Nat) : wordF fr k (ws.getD k 0) = (((List.range 64).map (64 * k + ·)).filter (bitAt ws)).map (fr + ·) := word_set fr k ws 64 (Nat.le_refl _)
theorem allF_set (fr : Nat) (ws : List Nat) (k : Nat) : k ≤ ws.length → allF fr 0 (ws.take k) = (setB ws (64 * k)).map (fr + ·) := by
 induction k with
 | zero => intro _; simp [allF, setB]
 | succ k ih =>
   intro h
   rw [allF_take fr (by omega), ih (by omega), wordF_set, Nat.mul_add, Nat.mul_one, setB_add, List.map_append]
theorem setB_top {ws : List Nat} {m : Nat} (ht : ∀ i, m ≤ i → bitAt ws i = false) : ∀ n, m ≤ n → setB ws n = setB ws m := fun n hn => by
 obtain ⟨d, rfl⟩ : ∃ d, n = m + d := ⟨n - m, by omega⟩
 unfold setB
 rw [List.range_add, List.filter_append]
 have : ((List.range d).map (m + ·)).filter (bitAt ws) = [] := by
  rw [List.filter_eq_nil_iff]
  intro a ha
  obtain ⟨b, _, rfl⟩ := List.mem_map.1 ha
  rw [ht (m + b) (by omega)]
  simp
 rw [this, List.append_nil]
theorem Sp.all {w : World} {B g gw fr to_ : Nat} {ws : List Nat} (h : Sp w B g gw fr to_ ws) : allF fr 0 ws = (setB ws (to_ - fr)).map (fr + ·) := by
 have h1 := allF_set fr ws ws.length (Nat.le_refl _)
 rw [List.take_length] at h1
 rw [h1, setB_top h.top _ (by have := h.len; omega)]
theorem Sp.mem {w : World} {B g gw fr to_ : Nat} {ws : List Nat} (h : Sp w B g gw fr to_ ws) {n : Nat} (hn : n ∈ allF fr 0 ws) : hasB fr to_ ws (n : Int) = true ∧ fr ≤ n ∧ n < to_ := by
 rw [h.all] at hn
 obtain ⟨a, ha, rfl⟩ := List.mem_map.1 hn
 obtain ⟨h1, h2⟩ := List.mem_filter.1 ha
 have h1 := List.mem_range.1 h1
 refine ⟨?_, by omega, by omega⟩
 unfold hasB
 rw [decide_eq_true (by omega), show (((fr + a : Nat) : Int) - (fr : Int)).toNat = a by omega, h2]
 rfl
end Go.Proofs.YtlofoklfggmbiaaDoor
