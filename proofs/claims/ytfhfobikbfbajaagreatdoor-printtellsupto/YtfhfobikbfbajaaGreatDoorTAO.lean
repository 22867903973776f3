/- The document's Bytes: what is hashed. What can be written, part by part; what is written of a task so far. Nothing of a program. The document's wrong. A name, both ways; texts laid behind one another. The document's Text. The document's Parse. -/
import Derived.Test.YtfhfobikbfbajaaGreatDoorTAN
import Derived.Test.YtfhfobikbfbajaaGreatDoorTAJ
import Derived.Test.YtfhfobikbfbajaaGreatDoorTAG
namespace Go.Proofs.YtfhfobikbfbajaaGreatDoor
open Go.RowKit Go.Maps

theorem isB_at {W : World} {g o n c : Nat} {xs : List Int} (h : IsB W (.slice (some ⟨g, o, none⟩) n c) xs) : ∀ j x, (xs.map (Value.int .u8))[j]? = some x → W.cell? ((⟨g, o, none⟩ : Addr).add j) = some x := by
  intro j x hx
  obtain ⟨_, a, cap, e, _, _, _, hc⟩ := h
  have hj : j < xs.length := by
    have := (List.getElem?_eq_some_iff.1 hx).1
    simpa using this
  obtain ⟨b, o', ha, hcc⟩ := hc (by omega)
  injection e with e1 _ _
  rw [ha] at e1
  injection e1 with e1
  injection e1 with e1 e2
  subst e1; subst e2
  rw [Addr.add_lit]
  have := hcc j hj
  rw [this, ← hx, List.getElem?_map, List.getD_eq_getElem?_getD, List.getElem?_eq_getElem hj]
  rfl
theorem str_bytesP (s : ByteArray) (hl : s.size ≤ 1000000000) (W : World) :
    ∃ c N, (convert 9 65 (.string s)).run Tryz.prog W = .ok (.slice (some ⟨W.heap.size, 0, none⟩) s.size c) N ∧ IsB N (.slice (some ⟨W.heap.size, 0, none⟩) s.size c) (iL (byL s)) ∧ N.heap.size = W.heap.size + 1 ∧ Below W.heap.size W N := by
  have hs : s.data.toList.map (fun b => (b.toNat : Int)) = iL (byL s) := rfl
  generalize iL (byL s) = xs at *
  have hsz : s.size = xs.length := by rw [← hs, List.length_map, Array.length_toList]; rfl
  refine ⟨_, _, run_bytes_of_string W 9 65 5 s Tryz.underlying9 Tryz.underlying65 Tryz.underlying5, ?_, by simp, ⟨rfl, rfl, rfl, by simp, fun k hk => ?_⟩⟩
  · refine ⟨bytes_mem (fun x hx => ?_), some ⟨W.heap.size, 0, none⟩, grownCap W s.size 0 5, by rw [hsz], by rw [← hsz]; exact grownCap_ge _ _ _ _, by have := grownCap_le_maxLen W s.size 0 5 (by unfold maxLen; omega); simpa [maxLen] using this, (fun h => by cases h), fun _ => ⟨W.heap.size, 0, rfl, fun j hj => ?_⟩⟩
    · rw [← hs] at hx
      obtain ⟨b, _, rfl⟩ := List.mem_map.1 hx
      have := b.toNat_lt
      omega
    · have hj' : j < s.data.size := by have : s.size = s.data.size := rfl; omega
      have hnew := heap_alloc_new W.drew (.cells (bytesRow s (grownCap W s.size 0 5)) 5 ((bytesRow s (grownCap W s.size 0 5)).size, (bytesRow s (grownCap W s.size 0 5)).size + 1))
      rw [cell_of_row _ W.heap.size (0 + j) _ _ _ hnew, Nat.zero_add, bytesRow_at s _ j hj', ← hs, List.getD_eq_getElem?_getD, List.getElem?_map, List.getElem?_eq_getElem (by simpa using hj')]
      simp
  · show (W.heap.push _)[k]? = _
    rw [Array.getElem?_push, if_neg (by omega)]
def kyC (k : List UInt8) : List Value := (iL k).map (Value.int .u8)
/-- A slice of keys, as it is read. -/
def IsKs (W : World) (v : Value) (ks : List (List UInt8)) : Prop :=
  ∃ a c, v = .slice a ks.length c ∧ ks.length ≤ c ∧ c ≤ 9223372036854775807 ∧ (a = none → c = 0) ∧ (0 < ks.length → ∃ b o, a = some ⟨b, o, none⟩ ∧ ∀ j, j < ks.length → W.rangeAt b (o + j * 32) (kyC (ks.getD j []))) ∧ ∀ k ∈ ks, k.length = 32
theorem IsKs.below {W W' : World} {v : Value} {ks : List (List UInt8)} (h : IsKs W v ks) (hb : Below W.heap.size W W') : IsKs W' v ks := by
  obtain ⟨a, c, e, h1, h2, h3, h4, h5⟩ := h
  refine ⟨a, c, e, h1, h2, h3, fun hp => ?_, h5⟩
  obtain ⟨b, o, e2, h6⟩ := h4 hp
  exact ⟨b, o, e2, fun j hj => rangeAt_below (h6 j hj) hb⟩
/-- What is hashed. -/
def kB (k : List UInt8) : List UInt8 := uvL 32 ++ k
def dBy (s : ByteArray) (ks : List (List UInt8)) : List UInt8 := (uvL s.size ++ byL s) ++ ks.flatMap kB
theorem kB_len (ks : List (List UInt8)) (h : ∀ k ∈ ks, k.length = 32) : (ks.flatMap kB).length = ks.length * 33 := by
  induction ks with
  | nil => rfl
  | cons k ks ih =>
    have e : (uvL 32).length = 1 := by decide
    rw [List.flatMap_cons, List.length_append, ih (fun x hx => h x (List.mem_cons_of_mem _ hx)), kB, List.length_append, e, h k (by simp), List.length_cons]
    omega
theorem own8_nil (W : World) (B : Nat) : Own8 W B (.slice none 0 0) (iL []) := ⟨⟨rfl, Or.inl ⟨rfl, rfl⟩⟩, by simp [iL]⟩
theorem own8_at {W : World} {B : Nat} {v : Value} {l : List UInt8} (h : Own8 W B v (iL l)) (hl : 0 < l.length) : ∃ g c, v = .slice (some ⟨g, 0, none⟩) l.length c ∧ B ≤ g ∧ g < W.heap.size := by
  rcases h.1.2 with ⟨_, h0⟩ | ⟨g, cap, cur, e, hb, hg, _⟩
  · rw [iL_len] at h0; omega
  · exact ⟨g, cap, by rw [e, iL_len], hb, (Array.getElem?_eq_some_iff.1 hg).1⟩
set_option maxRecDepth 100000 in
set_option maxHeartbeats 4000000 in
theorem dBytes_calls {w W : World} {s : ByteArray} {v : Value} {ks : List (List UInt8)} (hK : IsKs w v ks) (hw : Below w.heap.size w W) (hs : s.size ≤ 100000000) (hn : ks.length ≤ 1000) :
    Calls Tryz.prog 28 #[.string s, v] W fun e W' => ∃ v', e = .returned v' ∧ Own8 W' W.heap.size v' (iL (dBy s ks)) ∧ Below W.heap.size W W' := by
  obtain ⟨c8, N, hcv, hiN, hsN, hbN⟩ := str_bytesP s (by omega) W
  have hlb : (byL s).length = s.size := byL_len s
  have HLD := hide (dlaid_calls (Bx.start hbN (own8_nil N W.heap.size)) (isB_at hiN) (by intro e; cases e) (by omega) (b := byL s) (uc := c8) (by rw [hlb]; simp; omega))
  rw [hlb, List.nil_append] at HLD
  obtain ⟨a, c, rfl, hlc, hmc, _, hcc, h32⟩ := hK
  have hli : (ks.length : Int) ≤ 9223372036854775807 := by omega
  have HC := hide hcc
  have H32 := hide h32
  have HW := hide hw
  have HN := hide hn
  have HPL : Hid ((uvL s.size ++ byL s).length ≤ 100000010) := hide (by have := uvF_len 9 s.size; rw [List.length_append, hlb]; unfold uvL; omega)
  obtain ⟨P, hP⟩ : ∃ P, P = uvL s.size ++ byL s := ⟨_, rfl⟩
  have HD : Hid (dBy s ks = P ++ ks.flatMap kB) := hide (by rw [hP]; rfl)
  rw [← hP] at HLD HPL
  clear hiN hsN hbN hlb hcc h32 hw hn hs hP hlc hmc
  go_enter Tryz.func28, Tryz.ntmps28
  go_wp2_with fail
  refine (unhide HLD).mono ?_
  rintro e w2 ⟨v2, rfl, HX⟩
  clear HLD
  go_wp2_with fail
  obtain ⟨a2, n2, c2, hv2⟩ := HX.out.own.shape
  subst hv2
  have HO2 := hide HX.out.own
  have HB2 := hide HX.out.base
  clear HX
  go_loopw [5, 6, 7, 8] (fun ov iv _ _ wr => ∃ i : Nat, iv = .int .i64 (i : Int) ∧ i ≤ ks.length ∧ Hid (Own8 wr W.heap.size ov (iL (P ++ (ks.take i).flatMap kB)) ∧ Below W.heap.size W wr)) (fun _ iv _ _ _ => ks.length - (intOf iv).toNat)
  case atStart => exact ⟨0, rfl, Nat.zero_le _, hide ⟨by simpa using HO2.out, HB2.out⟩⟩
  case round =>
    obtain ⟨i, rfl, hiq, HJ⟩ := hrel
    obtain ⟨aj, nj, cj, hvj⟩ := HJ.out.1.shape
    subst hvj
    by_cases hlt : i < ks.length
    · have hlti : (i : Int) < (ks.length : Int) := by omega
      obtain ⟨b, o, rfl, hcl⟩ := HC.out (by omega)
      have hrg := rangeAt_below (hcl i hlt) (HW.out.trans (HJ.out.2.mono HW.out.size))
      have hmem : ks.getD i [] ∈ ks := by rw [List.getD_eq_getElem?_getD, List.getElem?_eq_getElem hlt]; exact List.getElem_mem hlt
      have HKL := hide (H32.out _ hmem)
      have HFM : Hid ((ks.take (i + 1)).flatMap kB = (ks.take i).flatMap kB ++ kB (ks.getD i [])) := hide (by rw [List.take_succ_eq_append_getElem hlt, List.flatMap_append, List.getD_eq_getElem?_getD, List.getElem?_eq_getElem hlt]; simp)
      have HPJ : Hid ((P ++ (ks.take i).flatMap kB).length ≤ 200000000) := hide (by
        have h1 := kB_len (ks.take i) (fun k hk => H32.out k (List.mem_of_mem_take hk))
        have h2 := HPL.out
        have h3 := HN.out
        rw [List.length_append, h1, List.length_take]
        omega)
      obtain ⟨ky, hky⟩ : ∃ k, k = ks.getD i [] := ⟨_, rfl⟩
      rw [← hky] at hrg HKL HFM
      have hwi : IntKind.i64.wrap ((i : Int) + 1) = ((i + 1 : Nat) : Int) := by rw [IntKind.wrap_i64]; have := HN.out; omega
      have HRG := hide hrg
      clear hcl hmem hky hrg
      obtain ⟨W1, rfl⟩ : ∃ x, x = wr := ⟨wr, rfl⟩
      go_wp2_with fail
      go_loopw [7, 8] (fun bv kv w3 => ∃ k : Nat, kv = .int .i64 (k : Int) ∧ k ≤ 32 ∧ Hid (Bx W1 W1 w3 bv (ky.take k) (.slice none 0 0))) (fun _ kv _ => 32 - (intOf kv).toNat)
      case atStart => exact ⟨0, rfl, Nat.zero_le _, hide (Bx.start (Below.refl _ _) (own8_nil W1 _))⟩
      case round =>
        obtain ⟨k, rfl, hkq, HK⟩ := hrel
        obtain ⟨ak, nk, ck, hvk⟩ := HK.out.own.shape
        subst hvk
        by_cases hk32 : k < 32
        · have hk32i : (k : Int) < 32 := by omega
          have hkl : k < ky.length := by have := HKL.out; omega
          have hld : wr.cell? ⟨b, o + i * 32 + k, none⟩ = some (.int .u8 ((ky.getD k 0).toNat : Int)) := by
            have h1 : (kyC ky)[k]? = some (.int .u8 ((ky.getD k 0).toNat : Int)) := by
              unfold kyC iL
              rw [List.getElem?_map, List.getElem?_map, List.getD_eq_getElem?_getD, List.getElem?_eq_getElem hkl]; rfl
            have h2 := HRG.out k _ h1
            exact (HK.out.base.cell (p := ⟨b, o + i * 32 + k, none⟩) (World.block_lt_of_cell? W1 _ h2)).trans h2
          have HST : Hid (ky.take (k + 1) = ky.take k ++ [ky.getD k 0]) := hide (by rw [List.take_succ_eq_append_getElem hkl, List.getD_eq_getElem?_getD, List.getElem?_eq_getElem hkl]; rfl)
          obtain ⟨c8, hc8⟩ : ∃ x, x = ky.getD k 0 := ⟨_, rfl⟩
          rw [← hc8] at hld HST
          have hwk : IntKind.i64.wrap ((k : Int) + 1) = ((k + 1 : Nat) : Int) := by rw [IntKind.wrap_i64]; omega
          clear hc8
          go_wp2_with (first
            | (at_builtin; refine wpList_bxC c8 rfl (.tmp 22) (.tmp 29) rfl (z := (c8.toNat : Int)) (v := .slice ak nk ck) rfl rfl HK.out rfl (by rw [List.length_take]; omega) ?_; intro v6 w6 hB6; have HB6 := hide hB6; clear hB6 hld)
            | fail)
          go_roundw
          case rel => exact ⟨k + 1, by go_num, by omega, hide (by rw [HST.out]; exact HB6.out)⟩
          case measure => simp [intOf]; omega
        · have hk32i : ¬ (k : Int) < 32 := by omega
          have hk32d : decide ((k : Int) < 32) = false := decide_eq_false hk32i
          have HK2 : Hid (Own8 wr W1.heap.size (.slice ak nk ck) (iL ky)) := hide (by have := HK.out.own; rw [List.take_of_length_le (by have := HKL.out; omega)] at this; exact this)
          have HK3 := hide HK.out.base
          obtain ⟨g, cg, hvg, hg1, hg2⟩ := own8_at HK2.out (by have := HKL.out; omega)
          rw [HKL.out] at hvg
          injection hvg with e1 e2 e3
          subst e1
          subst e2
          have HO3 := hide (HJ.out.1.below HK3.out)
          have HLD := hide (dlaid_calls (Bx.start (HJ.out.2.trans (HK3.out.mono HJ.out.2.size)) HO3.out) (b := ky) (uc := ck) (isB_at HK2.out.isB) (fun e => by have := (World.ownsRow.lt HJ.out.1.1 _ e).2; omega) hg2 (by have h1 := HPJ.out; have h2 := HKL.out; omega))
          rw [HKL.out] at HLD
          clear HK e3 hg1 hg2
          go_wp2_with fail
          refine (unhide HLD).mono ?_
          rintro e w7 ⟨v7, rfl, HX⟩
          clear HLD
          go_wp2
          go_roundw
          case rel => exact ⟨i + 1, by go_num, by omega, hide ⟨by have := HX.out.own; rw [HFM.out, ← List.append_assoc]; exact this, HX.out.base⟩⟩
          case measure => simp [intOf]; omega
    · have hlti : ¬ (i : Int) < (ks.length : Int) := by omega
      have hltd : decide ((i : Int) < (ks.length : Int)) = false := decide_eq_false hlti
      have HF : Hid (Own8 wr W.heap.size (.slice aj nj cj) (iL (dBy s ks))) := hide (by have := HJ.out.1; rw [show i = ks.length by omega, List.take_length] at this; rw [HD.out]; exact this)
      go_wp2
      go_ret
      exact ⟨_, rfl, HF.out, HJ.out.2⟩
end Go.Proofs.YtfhfobikbfbajaaGreatDoor

namespace Go.Proofs.YtfhfobikbfbajaaGreatDoor

section
variable (nm pt : ByteArray → Bool) (cl : List ByteArray → ByteArray → Bool)
theorem insO_app : ∀ (acc a b : List ByteArray), insO pt acc (a ++ b) = (insO pt acc a && insO pt (acc ++ a) b)
  | acc, [], b => by rw [List.append_nil]; rfl
  | acc, p :: a, b => by
    show (pt p && (!hasB acc p && insO pt (acc ++ [p]) (a ++ b))) = ((pt p && (!hasB acc p && insO pt (acc ++ [p]) a)) && insO pt (acc ++ p :: a) b)
    rw [insO_app (acc ++ [p]) a b, List.append_assoc]
    simp only [Bool.and_assoc, List.singleton_append]
theorem outsO_app : ∀ (md : List ByteArray) (a b : List (ByteArray × Tm)), outsO nm pt cl md (a ++ b) = (outsO nm pt cl md a && outsO nm pt cl (md ++ a.map (·.1)) b)
  | md, [], b => by simp [outsO]
  | md, o :: a, b => by
    show (pt o.1 && (!cl md o.1 && (fitT nm pt 64 o.2 && outsO nm pt cl (md ++ [o.1]) (a ++ b)))) = ((pt o.1 && (!cl md o.1 && (fitT nm pt 64 o.2 && outsO nm pt cl (md ++ [o.1]) a))) && outsO nm pt cl (md ++ (o :: a).map (·.1)) b)
    rw [outsO_app (md ++ [o.1]) a b, List.append_assoc]
    simp only [Bool.and_assoc, List.singleton_append, List.map_cons]
theorem tsO_app : ∀ (nms md : List ByteArray) (a b : List Tsk), tsO nm pt cl nms md (a ++ b) = (tsO nm pt cl nms md a && tsO nm pt cl (nms ++ a.map (·.name)) (md ++ a.flatMap outsOf) b)
  | nms, md, [], b => by simp [tsO]
  | nms, md, t :: a, b => by
    show (!hasB nms t.name && (tskO nm pt cl md t && tsO nm pt cl (nms ++ [t.name]) (md ++ outsOf t) (a ++ b))) = ((!hasB nms t.name && (tskO nm pt cl md t && tsO nm pt cl (nms ++ [t.name]) (md ++ outsOf t) a)) && tsO nm pt cl (nms ++ (t :: a).map (·.name)) (md ++ (t :: a).flatMap outsOf) b)
    rw [tsO_app (nms ++ [t.name]) (md ++ outsOf t) a b, List.append_assoc, List.append_assoc]
    simp only [Bool.and_assoc, List.singleton_append, List.map_cons, List.flatMap_cons]
variable {nm pt cl}
theorem insO_take {l : List ByteArray} {i : Nat} (h : i < l.length) : insO pt [] (l.take (i + 1)) = (insO pt [] (l.take i) && (pt (l.getD i default) && !hasB (l.take i) (l.getD i default))) := by
  rw [List.take_succ_eq_append_getElem h, insO_app, List.getD_eq_getElem?_getD, List.getElem?_eq_getElem h]
  show (_ && (pt _ && (!hasB ([] ++ _) _ && true))) = _
  rw [Bool.and_true, List.nil_append]
  rfl
theorem insO_false {l : List ByteArray} {i : Nat} (h : insO pt [] (l.take i) = false) : insO pt [] l = false := by
  have := insO_app pt [] (l.take i) (l.drop i)
  rw [List.take_append_drop, h, Bool.false_and] at this
  exact this
theorem outsO_take {md : List ByteArray} {l : List (ByteArray × Tm)} {i : Nat} {z : ByteArray × Tm} (h : i < l.length) : outsO nm pt cl md (l.take (i + 1)) = (outsO nm pt cl md (l.take i) && (pt (l.getD i z).1 && (!cl (md ++ (l.take i).map (·.1)) (l.getD i z).1 && fitT nm pt 64 (l.getD i z).2))) := by
  rw [List.take_succ_eq_append_getElem h, outsO_app, List.getD_eq_getElem?_getD, List.getElem?_eq_getElem h]
  show (_ && (pt _ && (!cl _ _ && (fitT nm pt 64 _ && true)))) = _
  rw [Bool.and_true]
  rfl
theorem outsO_false {md : List ByteArray} {l : List (ByteArray × Tm)} {i : Nat} (h : outsO nm pt cl md (l.take i) = false) : outsO nm pt cl md l = false := by
  have := outsO_app nm pt cl md (l.take i) (l.drop i)
  rw [List.take_append_drop, h, Bool.false_and] at this
  exact this
theorem tsO_take {nms md : List ByteArray} {l : List Tsk} {i : Nat} {z : Tsk} (h : i < l.length) : tsO nm pt cl nms md (l.take (i + 1)) = (tsO nm pt cl nms md (l.take i) && (!hasB (nms ++ (l.take i).map (·.name)) (l.getD i z).name && tskO nm pt cl (md ++ (l.take i).flatMap outsOf) (l.getD i z))) := by
  rw [List.take_succ_eq_append_getElem h, tsO_app, List.getD_eq_getElem?_getD, List.getElem?_eq_getElem h]
  show (_ && (!hasB _ _ && (tskO nm pt cl _ _ && true))) = _
  rw [Bool.and_true]
  rfl
theorem tsO_false {nms md : List ByteArray} {l : List Tsk} {i : Nat} (h : tsO nm pt cl nms md (l.take i) = false) : tsO nm pt cl nms md l = false := by
  have := tsO_app nm pt cl nms md (l.take i) (l.drop i)
  rw [List.take_append_drop, h, Bool.false_and] at this
  exact this
end
theorem getOu {l : List (ByteArray × Tm)} {i : Nat} {z : ByteArray × Tm} (h : i < l.length) : l.getD i z ∈ l := by
  rw [List.getD_eq_getElem?_getD, List.getElem?_eq_getElem h]
  exact List.getElem_mem h
theorem getTk {l : List Tsk} {i : Nat} {z : Tsk} (h : i < l.length) : l.getD i z ∈ l := by
  rw [List.getD_eq_getElem?_getD, List.getElem?_eq_getElem h]
  exact List.getElem_mem h
/-- The line of a task; the inputs so far; the outputs so far. -/
def hdB (t : Tsk) : List UInt8 := byL wTask ++ (32 :: (byL t.name ++ (32 :: (byL (decW t.budget) ++ [10]))))
def inB (l : List ByteArray) (i : Nat) : List UInt8 := (if l = [] then [] else byL wIn) ++ (l.take i).flatMap (fun s => 32 :: byL s)
theorem inB_step {l : List ByteArray} {i : Nat} (h : i < l.length) : inB l (i + 1) = inB l i ++ (32 :: byL (l.getD i default)) := by
  unfold inB
  rw [List.take_succ_eq_append_getElem h, List.flatMap_append, List.append_assoc, List.getD_eq_getElem?_getD, List.getElem?_eq_getElem h]
  simp
theorem inB_end (l : List ByteArray) : insBy l = inB l l.length ++ (if l = [] then [] else [10]) := by
  unfold insBy inB
  rw [List.take_length]
  by_cases h : l = []
  · simp [h]
  · rw [if_neg h, if_neg h, if_neg h, List.append_assoc]
theorem ouB_step {l : List (ByteArray × Tm)} {i : Nat} {z : ByteArray × Tm} (h : i < l.length) : (l.take (i + 1)).flatMap outBy = (l.take i).flatMap outBy ++ outBy (l.getD i z) := by
  rw [List.take_succ_eq_append_getElem h, List.flatMap_append, List.getD_eq_getElem?_getD, List.getElem?_eq_getElem h]
  simp
theorem skBy_parts (t : Tsk) : skBy t = hdB t ++ (insBy t.ins ++ (t.outs.flatMap outBy ++ (byL wEnd ++ [10]))) := by
  unfold skBy hdB
  simp only [List.append_assoc, List.cons_append, List.nil_append]
theorem map_take1 {l : List (ByteArray × Tm)} {i : Nat} {z : ByteArray × Tm} (h : i < l.length) : (l.take (i + 1)).map (·.1) = (l.take i).map (·.1) ++ [(l.getD i z).1] := by
  rw [List.take_succ_eq_append_getElem h, List.map_append, List.getD_eq_getElem?_getD, List.getElem?_eq_getElem h]
  rfl
end Go.Proofs.YtfhfobikbfbajaaGreatDoor

namespace Go.Proofs.YtfhfobikbfbajaaGreatDoor
open Go.RowKit

/-- The place in a part that can't be, counted from where the part begins; or -1. -/
def wrI (part : ByteArray) (x : Nat) : Int := match dpL (toL part) with
  | some k => ((x + k : Nat) : Int)
  | none => -1
theorem wrL_step (s : ByteArray) {i : Nat} (h : i < s.size) : wrL ((toL s).drop i) i = if inN (byt s i) = false ∨ i = 64 then some i else wrL ((toL s).drop (i + 1)) (i + 1) := by
  rw [toL_at s h, wrL]
  rfl
set_option maxRecDepth 100000 in
set_option maxHeartbeats 4000000 in
theorem wrong_calls (s : ByteArray) (x : Nat) (hs : s.size ≤ 2000000) (hx : x ≤ 10000000) (w : World) : Calls Tryz.prog 107 #[.string s, .int .i64 (x : Int)] w fun e w' => e = .returned (.int .i64 (wrI s x)) ∧ w' = w := by
  have e1 : (s.toList == [46]) = decide (s = dot1) := by rw [← str_eq, ByteArray.toList_eq dot1]; rfl
  have e2 : (s.toList == [46, 46]) = decide (s = dot2) := by rw [← str_eq, ByteArray.toList_eq dot2]; rfl
  have d1 : s = dot1 ↔ toL s = [46] := by rw [← toL_iff]; rfl
  have d2 : s = dot2 ↔ toL s = [46, 46] := by rw [← toL_iff]; rfl
  have HD : Hid (wrI s x = match dpL (toL s) with | some k => ((x + k : Nat) : Int) | none => -1) := rfl
  by_cases h1 : s = dot1
  · rw [decide_eq_true h1] at e1
    have HV : Hid (wrI s x = (x : Int)) := by show _ = _; rw [HD.out, dpL, if_pos (Or.inl (d1.1 h1))]; rfl
    clear d1 d2 h1 HD
    go_enter Tryz.func107, Tryz.ntmps107
    go_wp2
    go_ret
    exact ⟨by rw [HV.out]; rfl, rfl⟩
  · rw [decide_eq_false h1] at e1
    by_cases h2 : s = dot2
    · rw [decide_eq_true h2] at e2
      have HV : Hid (wrI s x = (x : Int)) := by show _ = _; rw [HD.out, dpL, if_pos (Or.inr (d2.1 h2))]; rfl
      clear d1 d2 h1 h2 HD
      go_enter Tryz.func107, Tryz.ntmps107
      go_wp2
      go_ret
      exact ⟨by rw [HV.out]; rfl, rfl⟩
    · rw [decide_eq_false h2] at e2
      have HW : Hid (wrI s x = match wrL (toL s) 0 with | some k => ((x + k : Nat) : Int) | none => -1) := by
        show _ = _
        rw [HD.out, dpL, if_neg (fun h => h.elim (fun h => h1 (d1.2 h)) fun h => h2 (d2.2 h))]
      clear d1 d2 h1 h2 HD
      go_enter Tryz.func107, Tryz.ntmps107
      go_wp2_with fail
      go_loop [5] (fun jv => ∃ (j : Nat), j ≤ s.size ∧ jv = .int .i64 (j : Int) ∧ Hid (wrL (toL s) 0 = wrL ((toL s).drop j) j)) (fun j => s.size - (intOf j).toNat)
      case atStart => exact ⟨0, by omega, rfl, by show _ = _; rfl⟩
      case round =>
        obtain ⟨j, hj, rfl, HJ⟩ := hrel
        by_cases hlt : j < s.size
        · have hidx := index_str s j hlt
          have HM := hide (may_calls (byt s j) w)
          have HST := hide (wrL_step s hlt)
          have hjI : (j : Int) < (s.size : Int) := by omega
          cases hin : inN (byt s j) with
          | true =>
            rw [hin] at HM
            by_cases h64 : j = 64
            · have HV : Hid (wrI s x = (x : Int) + (j : Int)) := by
                show _ = _
                rw [HW.out, HJ.out, HST.out, if_pos (Or.inr h64)]
                exact Int.natCast_add _ _
              have b64 : ((j : Int) == 64) = true := by rw [h64]; rfl
              generalize byt s j = y at *
              clear hin h64
              go_wp2_with fail
              refine (unhide HM).mono ?_
              rintro e w1 ⟨rfl, hw1⟩
              obtain rfl := hw1.symm
              clear hw1
              go_wp2
              go_ret
              exact ⟨by rw [HV.out]; rfl, rfl⟩
            · have HJ2 : Hid (wrL (toL s) 0 = wrL ((toL s).drop (j + 1)) (j + 1)) := by
                show _ = _
                rw [HJ.out, HST.out, if_neg (fun h => h.elim (fun h => by rw [hin] at h; cases h) h64)]
              have b64 : ((j : Int) == 64) = false := by simp; omega
              generalize byt s j = y at *
              clear hin h64
              go_wp2_with fail
              refine (unhide HM).mono ?_
              rintro e w1 ⟨rfl, hw1⟩
              obtain rfl := hw1.symm
              clear hw1
              go_wp2
              go_roundw
              case rel => exact ⟨j + 1, by omega, by go_num, HJ2⟩
              case measure => simp [intOf]; omega
          | false =>
            rw [hin] at HM
            have HV : Hid (wrI s x = (x : Int) + (j : Int)) := by
              show _ = _
              rw [HW.out, HJ.out, HST.out, if_pos (Or.inl hin)]
              exact Int.natCast_add _ _
            generalize byt s j = y at *
            clear hin
            go_wp2_with fail
            refine (unhide HM).mono ?_
            rintro e w1 ⟨rfl, hw1⟩
            obtain rfl := hw1.symm
            clear hw1
            go_wp2
            go_ret
            exact ⟨by rw [HV.out]; rfl, rfl⟩
        · have HV : Hid (wrI s x = -1) := by
            show _ = _
            rw [HW.out, HJ.out, List.drop_of_length_le (by rw [toL_len]; omega)]
            rfl
          go_wp2
          go_ret
          exact ⟨by rw [HV.out]; rfl, rfl⟩
end Go.Proofs.YtfhfobikbfbajaaGreatDoor

namespace Go.Proofs.YtfhfobikbfbajaaGreatDoor
open Go.RowKit

theorem wrL_none : ∀ (l : List UInt8) (c : Nat), c ≤ 64 → (wrL l c = none ↔ ((∀ b ∈ l, inL b = true) ∧ c + l.length ≤ 64))
  | [], c, hc => by simp [wrL]; omega
  | b :: l, c, hc => by
    rw [wrL]
    by_cases h : inL b = false ∨ c = 64
    · rw [if_pos h]
      simp
      intro h1 _
      rcases h with h | h
      · rw [h1] at h; cases h
      · omega
    · rw [if_neg h, wrL_none l (c + 1) (by omega)]
      have hb : inL b = true := by cases hh : inL b with
        | true => rfl
        | false => exact absurd (Or.inl hh) h
      simp [hb]
      intro _
      omega
theorem inL_47 : inL 47 = false := by decide
/-- A part that is a name. -/
def nmL (p : List UInt8) : Prop := dpL p = none ∧ p ≠ []
theorem nmL_iff (p : List UInt8) : nmL p ↔ (p ≠ [46] ∧ p ≠ [46, 46] ∧ (∀ b ∈ p, inL b = true) ∧ p.length ≤ 64 ∧ p ≠ []) := by
  unfold nmL dpL
  by_cases h : p = [46] ∨ p = [46, 46]
  · rw [if_pos h]
    constructor
    · rintro ⟨h1, _⟩; cases h1
    · rintro ⟨h1, h2, _⟩
      exact absurd h (fun h => h.elim h1 h2)
  · rw [if_neg h, wrL_none p 0 (by omega)]
    constructor
    · rintro ⟨⟨h1, h2⟩, h3⟩
      exact ⟨fun e => h (Or.inl e), fun e => h (Or.inr e), h1, by omega, h3⟩
    · rintro ⟨_, _, h1, h2, h3⟩
      exact ⟨⟨h1, by omega⟩, h3⟩
theorem nmL_noSlash {p : List UInt8} (h : nmL p) : 47 ∉ p := fun e => by
  have := ((nmL_iff p).1 h).2.2.1 47 e
  rw [inL_47] at this
  cases this
/-- The parts are names, from the i-th on, and not too many. -/
theorem docL_none : ∀ (ps : List (List UInt8)) (a i : Nat), i ≤ 15 → ps ≠ [] → (docL ps a i = none ↔ ((∀ p ∈ ps, nmL p) ∧ i + ps.length ≤ 16))
  | [], _, _, _, h => absurd rfl h
  | p :: r, a, i, hi, _ => by
    rw [docL]
    cases hd : dpL p with
    | some x =>
      simp only []
      constructor
      · intro h; cases h
      · rintro ⟨h, _⟩
        have := (h p (by simp)).1
        rw [hd] at this
        cases this
    | none =>
      simp only []
      by_cases h : p = [] ∨ (i = 15 ∧ r ≠ [])
      · rw [if_pos h]
        constructor
        · intro h; cases h
        · rintro ⟨h1, h2⟩
          rcases h with h | ⟨h, h'⟩
          · exact absurd h (h1 p (by simp)).2
          · cases r with
            | nil => exact absurd rfl h'
            | cons _ _ => simp at h2; omega
      · rw [if_neg h]
        have hp : nmL p := ⟨hd, fun e => h (Or.inl e)⟩
        cases r with
        | nil =>
          simp [docL]
          exact ⟨hp, by omega⟩
        | cons q r =>
          rw [docL_none (q :: r) _ (i + 1) (by
            have : i ≠ 15 := fun e => h (Or.inr ⟨e, by simp⟩)
            omega) (by simp)]
          constructor
          · rintro ⟨h1, h2⟩
            refine ⟨fun x hx => ?_, by simp at h2 ⊢; omega⟩
            rcases List.mem_cons.1 hx with rfl | hx
            · exact hp
            · exact h1 x hx
          · rintro ⟨h1, h2⟩
            exact ⟨fun x hx => h1 x (List.mem_cons_of_mem _ hx), by simp at h2 ⊢; omega⟩
/-- A path: its parts are names, at most sixteen; at most 255 bytes. -/
theorem pl_ok (l : List UInt8) : (plL l).2 = false ↔ ((∀ p ∈ cutL l, nmL p) ∧ (cutL l).length ≤ 16 ∧ l.length ≤ 255) := by
  have hn := docL_none (cutL l) 0 0 (by omega) (cutL_ne l)
  rw [Nat.zero_add] at hn
  unfold plL finL
  cases hd : docL (cutL l) 0 0 with
  | none =>
    have := hn.1 hd
    simp only []
    split
    · rename_i h
      constructor
      · intro e; cases e
      · rintro ⟨_, _, e⟩; omega
    · rename_i h
      exact ⟨fun _ => ⟨this.1, this.2, by omega⟩, fun _ => rfl⟩
  | some x =>
    simp only []
    have : ¬ ((∀ p ∈ cutL l, nmL p) ∧ (cutL l).length ≤ 16) := fun h => by
      have := hn.2 h
      rw [hd] at this
      cases this
    split
    · constructor
      · intro e; cases e
      · rintro ⟨h1, h2, _⟩; exact absurd ⟨h1, h2⟩ this
    · constructor
      · intro e; cases e
      · rintro ⟨h1, h2, _⟩; exact absurd ⟨h1, h2⟩ this
theorem wrong_pl (s : ByteArray) : wrongB s = (plL (toL s)).2 := by rw [← lv_pl]
theorem nameB_L (s : ByteArray) : nameB s = true ↔ nmL (toL s) := by
  unfold nameB
  rw [slash_L, wrong_pl]
  simp only [Bool.and_eq_true, Bool.not_eq_true', decide_eq_false_iff_not]
  rw [pl_ok]
  constructor
  · rintro ⟨⟨h1, _, _⟩, h2⟩
    rw [cutL_one _ h2] at h1
    exact h1 _ (by simp)
  · intro h
    have h2 := nmL_noSlash h
    rw [cutL_one _ h2]
    refine ⟨⟨fun p hp => ?_, by simp, ?_⟩, h2⟩
    · rw [List.mem_singleton.1 hp]; exact h
    · have := ((nmL_iff _).1 h).2.2.2.1
      omega
theorem rnameB_L (s : ByteArray) : rnameB s ↔ nmL (toL s) := by
  rw [nmL_iff]
  unfold rnameB mayTo
  have d1 : s = dot1 ↔ toL s = [46] := by rw [← toL_iff]; rfl
  have d2 : s = dot2 ↔ toL s = [46, 46] := by rw [← toL_iff]; rfl
  have hall : (∀ j, j < s.size → inN (byt s j) = true) ↔ ∀ b ∈ toL s, inL b = true := by
    constructor
    · intro h b hb
      obtain ⟨j, hj, rfl⟩ := List.mem_iff_getElem.1 hb
      have := h j (by rw [← toL_len]; exact hj)
      rw [byt_at, List.getD_eq_getElem?_getD, List.getElem?_eq_getElem hj] at this
      exact this
    · intro h j hj
      have hj' : j < (toL s).length := by rw [toL_len]; exact hj
      have := h ((toL s)[j]) (List.getElem_mem hj')
      rw [byt_at, List.getD_eq_getElem?_getD, List.getElem?_eq_getElem hj']
      exact this
  have hz : 1 ≤ s.size ↔ toL s ≠ [] := by
    rw [← toL_len]
    cases toL s <;> simp
  rw [hall, hz, toL_len, ne_eq, ne_eq, ne_eq, d1, d2]
  constructor
  · rintro ⟨a, b, c, d, e⟩; exact ⟨c, d, e, b, a⟩
  · rintro ⟨c, d, e, b, a⟩; exact ⟨a, b, c, d, e⟩
theorem name_iff (s : ByteArray) : nameB s = true ↔ rnameB s := by rw [nameB_L, rnameB_L]
end Go.Proofs.YtfhfobikbfbajaaGreatDoor

namespace Go.Proofs.YtfhfobikbfbajaaGreatDoor
open Go.RowKit

end Go.Proofs.YtfhfobikbfbajaaGreatDoor

namespace Go.Proofs.YtfhfobikbfbajaaGreatDoor
open Go.RowKit

theorem partsF_L (s : ByteArray) : ∀ n i fr, i + n = s.size → fr ≤ i → 47 ∉ ((toL s).drop fr).take (i - fr) → (partsF s n i fr).map toL = cutL ((toL s).drop fr)
  | 0, i, fr, h, hf, hq => by
    rw [partsF, List.map_cons, List.map_nil, toL_from]
    rw [List.take_of_length_le (by simp [toL_len]; omega)] at hq
    rw [cutL_one _ hq]
  | n + 1, i, fr, h, hf, hq => by
    have hlt : i < s.size := by omega
    have hb : ((toL s).drop fr).take (i + 1 - fr) = ((toL s).drop fr).take (i - fr) ++ [(toL s).getD i 0] := by
      rw [show i + 1 - fr = (i - fr) + 1 by omega, List.take_add_one, List.getElem?_drop, show fr + (i - fr) = i by omega, List.getD_eq_getElem?_getD, List.getElem?_eq_getElem (by rw [toL_len]; exact hlt)]
      rfl
    rw [partsF]
    by_cases h47 : byt s i = 47
    · rw [if_pos h47, List.map_cons, partsF_L s n (i + 1) (i + 1) (by omega) (Nat.le_refl _) (by simp), toL_ext]
      have e : (toL s).drop fr = ((toL s).drop fr).take (i - fr) ++ 47 :: (toL s).drop (i + 1) := by
        conv => lhs; rw [← List.take_append_drop (i - fr) ((toL s).drop fr)]
        rw [List.drop_drop, show fr + (i - fr) = i by omega, toL_at s hlt, (byt_eq47 s i).1 h47]
      conv => rhs; rw [e]
      rw [cutL_app _ hq]
    · rw [if_neg h47]
      refine partsF_L s n (i + 1) fr (by omega) (by omega) ?_
      rw [hb, List.mem_append, List.mem_singleton]
      exact fun e => e.elim hq fun e => h47 ((byt_eq47 s i).2 e.symm)
theorem partsD_L (s : ByteArray) : (partsD s).map toL = cutL (toL s) := by
  have := partsF_L s s.size 0 0 (by omega) (by omega) (by simp)
  rwa [List.drop_zero] at this
def lst1 (m x : Int) : Int := if 0 ≤ x ∧ x < m then x else m
def lst2 (m x : Int) (c : Prop) [Decidable c] : Int := if c ∧ x < m then x else m
/-- What is known of the least place when i parts are done, and the next one begins at p. -/
structure Lsw (s : ByteArray) (i p : Nat) (m : Int) : Prop where
  pos : i < (partsD s).length → p + (jn ((cutL (toL s)).drop i)).length = s.size
  fin : i = (partsD s).length → p = s.size + 1
  le : p ≤ s.size + 1
  st : (m = (s.size : Int) + 1 ∧ docL (cutL (toL s)) 0 0 = docL ((cutL (toL s)).drop i) p i) ∨ (∃ k : Nat, m = (k : Int) ∧ k < p ∧ docL (cutL (toL s)) 0 0 = some k)
theorem Lsw.start (s : ByteArray) : Lsw s 0 0 ((s.size : Int) + 1) where
  pos _ := by rw [List.drop_zero, jn_cut, toL_len]; omega
  fin h := by
    have := cutL_ne (toL s)
    rw [← partsD_L] at this
    exact absurd (List.eq_nil_of_length_eq_zero h.symm) (fun e => this (by rw [e]; rfl))
  le := by omega
  st := Or.inl ⟨rfl, rfl⟩
theorem dpL_lt {p : List UInt8} {x : Nat} (h : dpL p = some x) : x < p.length := by
  unfold dpL at h
  split at h
  · rename_i e
    simp at h
    subst h
    rcases e with e | e <;> rw [e] <;> decide
  · have : ∀ (l : List UInt8) k x, wrL l k = some x → x < k + l.length := by
      intro l
      induction l with
      | nil => intro k x h; simp [wrL] at h
      | cons b l ih =>
        intro k x h
        rw [wrL] at h
        split at h
        · simp at h; simp; omega
        · have := ih _ _ h; simp; omega
    have := this _ _ _ h
    omega
theorem Lsw.step {s : ByteArray} {i p : Nat} {m : Int} (h : Lsw s i p m) (hi : i < (partsD s).length) :
    p + ((partsD s).getD i default).size ≤ s.size ∧
    Lsw s (i + 1) (p + ((partsD s).getD i default).size + 1) (lst2 (lst1 m (wrI ((partsD s).getD i default) p)) ((p : Int) + (((partsD s).getD i default).size : Int)) (((partsD s).getD i default).size = 0 ∨ (i = 15 ∧ i + 1 < (partsD s).length))) := by
  have hlen : (cutL (toL s)).length = (partsD s).length := by rw [← partsD_L, List.length_map]
  obtain ⟨x, hx⟩ : ∃ x, x = (partsD s).getD i default := ⟨_, rfl⟩
  rw [← hx]
  have hd : (cutL (toL s)).drop i = toL x :: (cutL (toL s)).drop (i + 1) := by
    rw [List.drop_eq_getElem_cons (by rw [hlen]; exact hi)]
    congr 1
    have : (cutL (toL s))[i]? = some (toL x) := by
      rw [← partsD_L, List.getElem?_map, hx, List.getD_eq_getElem?_getD, List.getElem?_eq_getElem hi]
      rfl
    rw [List.getElem?_eq_getElem (by rw [hlen]; exact hi)] at this
    exact Option.some.inj this
  have hp := h.pos hi
  rw [hd] at hp
  have hr : (cutL (toL s)).drop (i + 1) = [] ↔ i + 1 = (partsD s).length := by
    rw [List.drop_eq_nil_iff, hlen]; omega
  have hlx : (toL x).length = x.size := toL_len x
  have hpl : p + x.size ≤ s.size ∧ (i + 1 < (partsD s).length → p + x.size + 1 + (jn ((cutL (toL s)).drop (i + 1))).length = s.size) ∧ (i + 1 = (partsD s).length → p + x.size = s.size) := by
    by_cases he : i + 1 = (partsD s).length
    · rw [hr.2 he, jn_one, hlx] at hp
      exact ⟨by omega, fun h => by omega, fun _ => hp⟩
    · rw [jn_cons _ (fun e => he (hr.1 e)), List.length_append, List.length_cons, hlx] at hp
      exact ⟨by omega, fun _ => by omega, fun e => absurd e he⟩
  refine ⟨hpl.1, ⟨hpl.2.1, fun e => by have := hpl.2.2 e; omega, by omega, ?_⟩⟩
  have hsz0 : x.size = 0 ↔ toL x = [] := by rw [← hlx, List.length_eq_zero_iff]
  rcases h.st with ⟨hm, hdoc⟩ | ⟨k, hm, hk, hdoc⟩
  · rw [hd, docL] at hdoc
    cases hdp : dpL (toL x) with
    | some y =>
      have hy := dpL_lt hdp
      rw [hdp] at hdoc
      have hw : wrI x p = ((p + y : Nat) : Int) := by unfold wrI; rw [hdp]
      have e1 : lst1 m (wrI x p) = ((p + y : Nat) : Int) := by
        unfold lst1
        rw [hw, if_pos ⟨by omega, by rw [hm]; omega⟩]
      have e2 : lst2 ((p + y : Nat) : Int) ((p : Int) + (x.size : Int)) (x.size = 0 ∨ (i = 15 ∧ i + 1 < (partsD s).length)) = ((p + y : Nat) : Int) := by
        unfold lst2
        rw [if_neg (fun h => by have := h.2; omega)]
      rw [e1, e2]
      exact Or.inr ⟨p + y, rfl, by omega, hdoc⟩
    | none =>
      rw [hdp] at hdoc
      simp only [] at hdoc
      have hw : wrI x p = -1 := by unfold wrI; rw [hdp]
      have e1 : lst1 m (wrI x p) = m := by unfold lst1; rw [hw, if_neg (fun h => by omega)]
      rw [e1]
      have hcond : (toL x = [] ∨ (i = 15 ∧ (cutL (toL s)).drop (i + 1) ≠ [])) ↔ (x.size = 0 ∨ (i = 15 ∧ i + 1 < (partsD s).length)) := by
        rw [hsz0, ne_eq, hr]
        constructor
        · rintro (e | ⟨e1, e2⟩)
          · exact Or.inl e
          · exact Or.inr ⟨e1, by omega⟩
        · rintro (e | ⟨e1, e2⟩)
          · exact Or.inl e
          · exact Or.inr ⟨e1, by omega⟩
      by_cases hc : x.size = 0 ∨ (i = 15 ∧ i + 1 < (partsD s).length)
      · rw [if_pos (hcond.2 hc)] at hdoc
        have e2 : lst2 m ((p : Int) + (x.size : Int)) (x.size = 0 ∨ (i = 15 ∧ i + 1 < (partsD s).length)) = ((p + x.size : Nat) : Int) := by
          unfold lst2
          rw [if_pos ⟨hc, by rw [hm]; omega⟩]
          omega
        rw [e2]
        exact Or.inr ⟨p + x.size, rfl, by omega, by rw [hdoc, hlx]⟩
      · rw [if_neg (fun e => hc (hcond.1 e))] at hdoc
        have e2 : lst2 m ((p : Int) + (x.size : Int)) (x.size = 0 ∨ (i = 15 ∧ i + 1 < (partsD s).length)) = m := by
          unfold lst2
          rw [if_neg (fun h => hc h.1)]
        rw [e2]
        exact Or.inl ⟨hm, by rw [hdoc, hlx]⟩
  · have e1 : lst1 m (wrI x p) = m := by
      unfold lst1
      rw [if_neg]
      rintro ⟨h1, h2⟩
      unfold wrI at h1 h2
      cases hdp : dpL (toL x) with
      | some y => rw [hdp] at h2; simp only [] at h2; omega
      | none => rw [hdp] at h1; simp only [] at h1; omega
    have e2 : lst2 m ((p : Int) + (x.size : Int)) (x.size = 0 ∨ (i = 15 ∧ i + 1 < (partsD s).length)) = m := by
      unfold lst2
      rw [if_neg (fun h => by have := h.2; omega)]
    rw [e1, e2]
    exact Or.inr ⟨k, hm, by omega, hdoc⟩
/-- Behind all parts. -/
theorem Lsw.done {s : ByteArray} {p : Nat} {m : Int} (h : Lsw s (partsD s).length p m) :
    ((plL (toL s)).2 = true ∧ (((plL (toL s)).1 : Nat) : Int) = (if 255 < (s.size : Int) ∧ 255 < m then 255 else m) ∧ (((plL (toL s)).1 : Nat) : Int) ≤ (s.size : Int)) ∨
    ((plL (toL s)).2 = false ∧ m = (s.size : Int) + 1 ∧ (s.size : Int) ≤ 255) := by
  have hlen : (cutL (toL s)).length = (partsD s).length := by rw [← partsD_L, List.length_map]
  have hl := toL_len s
  have hp := h.fin rfl
  unfold plL
  rcases h.st with ⟨hm, hdoc⟩ | ⟨k, hm, hk, hdoc⟩
  · rw [List.drop_of_length_le (by omega), docL] at hdoc
    rw [hdoc]
    unfold finL
    simp only []
    by_cases hb : 255 < (toL s).length
    · rw [if_pos hb]
      refine Or.inl ⟨rfl, ?_, by omega⟩
      rw [if_pos ⟨by omega, by omega⟩]
      rfl
    · rw [if_neg hb]
      exact Or.inr ⟨rfl, hm, by omega⟩
  · rw [hdoc]
    unfold finL
    simp only []
    by_cases hb : 255 < (toL s).length
    · rw [if_pos hb]
      refine Or.inl ⟨rfl, ?_, by simp only []; omega⟩
      by_cases hc : 255 < (s.size : Int) ∧ 255 < m
      · rw [if_pos hc]; simp only []; omega
      · rw [if_neg hc]; simp only []; omega
    · rw [if_neg hb]
      refine Or.inl ⟨rfl, ?_, by simp only []; omega⟩
      rw [if_neg (fun h => by omega)]
      simp only []; omega
end Go.Proofs.YtfhfobikbfbajaaGreatDoor
