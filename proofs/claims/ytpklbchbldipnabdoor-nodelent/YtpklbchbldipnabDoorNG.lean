/- checkName, Check. What is changed, by types; a text's bytes in new memory; bytes of an array. -/
import Derived.Test.YtpklbchbldipnabDoorNC
import Derived.Test.YtpklbchbldipnabDoorNF
import Derived.Deep.RegionHeld3
import Derived.Lib.ConvBytes
import Derived.Laws.AppendOwn
namespace Go.Proofs.YtpklbchbldipnabDoor
open Go.RowKit Go.Maps

/-- The name ahead of the i-th entry. -/
def ahN (l : List Ent) (i : Nat) : Option (List Int) := if i = 0 then none else some (l.getD (i - 1) .nul).nm
theorem ahN_succ (l : List Ent) (i : Nat) : ahN l (i + 1) = some (l.getD i .nul).nm := by unfold ahN; simp
/-- A name behind another one. -/
def chkN (nb : List Int → Bool) (ah : Option (List Int)) (nm : List Int) : Int := if nb nm = false then 81 else if late ah nm = true then 83 else 0
theorem chk1_N (nb : List Int → Bool) (ah : Option (List Int)) (e : Ent) : chk1 nb ah e = if chkN nb ah e.nm ≠ 0 then chkN nb ah e.nm else if sndE e = false then 80 else 0 := by
  unfold chk1 chkN
  by_cases h1 : nb e.nm = false
  · simp [h1]
  · rw [if_neg h1, if_neg h1]
    by_cases h2 : late ah e.nm = true
    · simp [h2]
    · simp [h2]
theorem chkF_step (nb : List Int → Bool) {l : List Ent} {i : Nat} (h : i < l.length) : chkF nb (ahN l i) (l.drop i) = if chk1 nb (ahN l i) (l.getD i .nul) ≠ 0 then chk1 nb (ahN l i) (l.getD i .nul) else chkF nb (ahN l (i + 1)) (l.drop (i + 1)) := by
  rw [List.drop_eq_getElem_cons h, chkF, ahN_succ, List.getD_eq_getElem?_getD, List.getElem?_eq_getElem h]
  rfl
theorem chkF_cases (nb : List Int → Bool) {l : List Ent} {i : Nat} {q : Int} (h : i < l.length) (hq : q = chkF nb (ahN l i) (l.drop i)) :
    (chkN nb (ahN l i) (l.getD i .nul).nm ≠ 0 → q = chkN nb (ahN l i) (l.getD i .nul).nm) ∧ (chkN nb (ahN l i) (l.getD i .nul).nm = 0 → sndE (l.getD i .nul) = false → q = 80) ∧
    (chkN nb (ahN l i) (l.getD i .nul).nm = 0 → sndE (l.getD i .nul) = true → q = chkF nb (ahN l (i + 1)) (l.drop (i + 1))) := by
  rw [hq, chkF_step nb h, chk1_N]
  generalize chkN nb (ahN l i) (l.getD i .nul).nm = c
  generalize sndE (l.getD i .nul) = s
  refine ⟨fun h => ?_, fun h1 h2 => ?_, fun h1 h2 => ?_⟩
  · rw [if_pos h, if_pos h]
  · subst h1 h2; simp
  · subst h1 h2; simp
theorem IsEn.take {w : World} {a : Option Addr} {n c : Nat} {l : List Ent} (h : IsEn w (.slice a n c) l) {i : Nat} (hi : i ≤ n) : IsEn w (.slice a i c) (l.take i) := by
  obtain ⟨h0, a', c', hv, h1, h2, h3, h4⟩ := h
  injection hv with e1 e2 e3
  subst e1 e3
  have hl : (l.take i).length = i := by rw [List.length_take]; omega
  refine ⟨fun e he => h0 e (List.mem_of_mem_take he), a, c, by rw [hl], by omega, h2, h3, fun hp => ?_⟩
  obtain ⟨b, o, ha, hc⟩ := h4 (by omega)
  refine ⟨b, o, ha, fun j hj => ?_⟩
  have := hc j (by omega)
  rw [List.getD_eq_getElem?_getD, List.getElem?_take_of_lt (by omega), ← List.getD_eq_getElem?_getD]
  exact this
theorem ahN_take (l : List Ent) (i : Nat) (hi : i ≤ l.length) : ahN (l.take i) (l.take i).length = ahN l i := by
  have hl : (l.take i).length = i := by rw [List.length_take]; omega
  rw [hl]
  unfold ahN
  by_cases h : i = 0
  · rw [if_pos h, if_pos h]
  · rw [if_neg h, if_neg h, List.getD_eq_getElem?_getD, List.getD_eq_getElem?_getD, List.getElem?_take_of_lt (by omega)]
theorem IsEn.name {w : World} {b o n c : Nat} {l : List Ent} (h : IsEn w (.slice (some ⟨b, o, none⟩) n c) l) {i : Nat} (hi : i < n) : w.cell? ⟨b, o + i * 68, none⟩ = some (.string (mkS (l.getD i .nul).nm)) := by
  have hn := h.lenEq.1
  obtain ⟨h0, a', c', hv, h1, h2, h3, h4⟩ := h
  injection hv with e1 e2 e3
  obtain ⟨b', o', ha, hc⟩ := h4 (by omega)
  rw [← e1] at ha
  injection ha with ha
  injection ha with ha1 ha2
  subst ha1 ha2
  exact hc i (by omega) 0 _ rfl
theorem IsEn.spot {w : World} {a : Option Addr} {n c : Nat} {l : List Ent} (h : IsEn w (.slice a n c) l) (hn : 0 < n) : ∃ b o, a = some ⟨b, o, none⟩ ∧ ∀ j, j < n → w.rangeAt b (o + j * 68) (enV (l.getD j .nul)) := by
  have hn' := h.lenEq.1
  obtain ⟨h0, a', c', hv, h1, h2, h3, h4⟩ := h
  injection hv with e1 e2 e3
  subst e1
  obtain ⟨b', o', ha, hc⟩ := h4 (by omega)
  exact ⟨b', o', ha, fun j hj => hc j (by omega)⟩
set_option maxRecDepth 100000 in
set_option maxHeartbeats 4000000 in
theorem checkName_calls {w : World} {a : Option Addr} {n c : Nat} {l : List Ent} (h : IsEn w (.slice a n c) l) {nm : List Int} (hb : Byt nm) (hl : nm.length ≤ 140737488360000) : Calls Tryd.prog 34 #[.slice a n c, .string (mkS nm)] w fun e w' => e = .returned (.int .i64 (chkN nbL (ahN l n) nm)) ∧ Below w.heap.size w w' := by
  have HN : Hid (Calls Tryd.prog 56 #[.string (mkS nm)] w fun e w' => e = .returned (.bool (nbL nm)) ∧ Below w.heap.size w w') := name_calls (mkS nm) (by rw [mkS_size]; exact hl) w
  have HQ : Hid (chkN nbL (ahN l n) nm = if nbL nm = false then 81 else if late (ahN l n) nm = true then 83 else 0) := rfl
  have hle := h.lenEq
  have hnc := hle.2
  generalize chkN nbL (ahN l n) nm = q at *
  by_cases hn : 0 < n
  · obtain ⟨b, o, rfl, hr⟩ := h.spot hn
    have HM : Hid (∀ w', Below w.heap.size w w' → w'.cell? ⟨b, o + (n - 1) * 68, none⟩ = some (.string (mkS (l.getD (n - 1) .nul).nm))) := fun w' hw => (h.below hw).name (by omega)
    have HLE := hide (leq_run hb (en_get (P := EnOk) h.ok (show n - 1 < l.length by omega)).ok.nm)
    have HL : Hid (late (ahN l n) nm = !ahd (l.getD (n - 1) .nul).nm nm) := by
      show _ = _
      unfold ahN
      rw [if_neg (by omega)]
      rfl
    rw [← HL.out] at HLE
    generalize hp : mkS (l.getD (n - 1) .nul).nm = pn at *
    generalize late (ahN l n) nm = lt at *
    generalize hm : mkS nm = s at *
    generalize nbL nm = nq at *
    have hJ : ((n : Int) - 1) = ((n - 1 : Nat) : Int) := by omega
    clear h hr hp hle hm HL hb hl
    cases nq with
    | false =>
      go_enter Tryd.func34, Tryd.ntmps34
      go_wp2_with fail
      refine (unhide HN).mono ?_
      rintro e w1 ⟨rfl, hb1⟩
      go_wp2
      go_ret
      exact ⟨by rw [HQ.out]; rfl, hb1⟩
    | true =>
      have hcd : (0 : Int) < (n : Int) := by omega
      go_enter Tryd.func34, Tryd.ntmps34
      go_wp2_with fail
      refine (unhide HN).mono ?_
      rintro e w1 ⟨rfl, hb1⟩
      have hm := unhide HM w1 hb1
      have hle := unhide HLE
      cases lt with
      | true =>
        go_wp2
        go_ret
        exact ⟨by rw [HQ.out]; rfl, hb1⟩
      | false =>
        go_wp2
        go_ret
        exact ⟨by rw [HQ.out]; rfl, hb1⟩
  · have HL : Hid (late (ahN l n) nm = false) := by
      show _ = _
      unfold ahN
      rw [if_pos (by omega)]
      rfl
    rw [HL.out] at HQ
    have hcd : ¬ (0 : Int) < (n : Int) := by omega
    generalize hm : mkS nm = s at *
    generalize nbL nm = nq at *
    clear h hle hm HL hb hl
    cases nq
    all_goals (
      go_enter Tryd.func34, Tryd.ntmps34
      go_wp2_with fail
      refine (unhide HN).mono ?_
      rintro e w1 ⟨rfl, hb1⟩
      go_wp2
      go_ret
      exact ⟨by rw [HQ.out]; rfl, hb1⟩)
set_option maxRecDepth 100000 in
set_option maxHeartbeats 4000000 in
theorem check_calls {w : World} {v : Value} {l : List Ent} (h : IsEn w v l) : Calls Tryd.prog 16 #[v] w fun e w' => e = .returned (.int .i64 (chkL nbL l)) ∧ Below w.heap.size w w' := by
  obtain ⟨a, c, rfl⟩ := h.shape
  have hle := h.lenEq
  obtain ⟨n, hn⟩ : ∃ n, n = l.length := ⟨_, rfl⟩
  rw [← hn] at h hle ⊢
  have hnc := hle.2
  have HQ : Hid (chkL nbL l = if 1024 < n then 82 else chkF nbL (ahN l 0) (l.drop 0)) := by rw [hn]; rfl
  generalize chkL nbL l = q at *
  have HN := hide hn
  have HH := hide h
  clear h hle hn
  by_cases hbig : 1024 < n
  · have hbi : (1024 : Int) < (n : Int) := by omega
    go_enter Tryd.func16, Tryd.ntmps16
    go_wp2
    go_ret
    exact ⟨by rw [HQ.out, if_pos hbig]; rfl, Below.refl _ _⟩
  · have hbi : ¬ (1024 : Int) < (n : Int) := by omega
    rw [if_neg hbig] at HQ
    go_enter Tryd.func16, Tryd.ntmps16
    go_wp2_with fail
    go_loopw [11] (fun iv W => ∃ i : Nat, i ≤ n ∧ iv = .int .i64 (i : Int) ∧ Below w.heap.size w W ∧ Hid (q = chkF nbL (ahN l i) (l.drop i))) (fun i _ => n - (intOf i).toNat)
    case atStart => exact ⟨0, by omega, rfl, Below.refl _ _, HQ⟩
    case round =>
      obtain ⟨i, hin, rfl, hbw, HI⟩ := hrel
      by_cases hlt : i < n
      · have hltI : (i : Int) < (n : Int) := by omega
        have hE := HH.out.below hbw
        obtain ⟨b, o, rfl, hr⟩ := hE.spot (by omega)
        have hil : i < l.length := by rw [← HN.out]; exact hlt
        have HR := hide (hr i hlt)
        have hok := en_get (P := EnOk) hE.ok hil
        have hst := chkF_cases nbL hil HI.out
        have HST := hide hst
        have HCK : Hid (∀ W, Below wr.heap.size wr W → Calls Tryd.prog 34 #[.slice (some ⟨b, o, none⟩) i c, .string (mkS (l.getD i .nul).nm)] W fun e w' => e = .returned (.int .i64 (chkN nbL (ahN l i) (l.getD i .nul).nm)) ∧ Below W.heap.size W w') := fun W hW => by
          have := checkName_calls ((hE.below hW).take (i := i) (by omega)) hok.ok.nm hok.nl
          rw [show ahN (l.take i) i = ahN l i by
            have := ahN_take l i (by omega)
            rwa [List.length_take, Nat.min_eq_left (by omega)] at this] at this
          exact this
        have HSD := hide (fun W => sound_calls hok.ok W)
        have HOK := hide hok.ok
        generalize l.getD i .nul = x at *
        have hic : (i : Int) ≤ (c : Int) := by omega
        clear hst hr hE hok HI
        go_wp2_with (first
          | (refine wpList_load_mid rfl 38 (.tmp 14) rfl b (o + i * 68) rfl (enV x) _ HR.out Tryd.underlying38 rfl (infoEof HOK.out) ?_)
          | (refine wpList_allocZ rfl 38 rfl infoEn ?_)
          | (refine wpList_storeAll rfl (.tmp 4) (.tmp 15) 38 rfl rfl rfl (Arr.new wr z68 38) (infoEof HOK.out) (by rw [z68_len, enV_len HOK.out]) (enV_one x) ?_; intro w5 hA5 hw5))
        have hb5 : Below wr.heap.size wr w5 := hw5.below _ _ ((Below.refl _ _).alloc (Nat.le_refl _) _) (Nat.le_refl _)
        have HC5 : Hid (∀ W, Below w5.heap.size w5 W → W.cell? ⟨wr.heap.size, 0, none⟩ = some (.string (mkS x.nm))) := fun W hW => by
          rw [(hA5.below hW).cell 0]; rfl
        have HB5 := hide hb5
        generalize hcn : chkN nbL (ahN l i) x.nm = cn at *
        generalize hsx : mkS x.nm = s at *
        focus (go_region_held3 (fun W => W.cell? ⟨wr.heap.size, 0, none⟩ = some (.string s))
          ((refine unhide HC5 _ ?_; (repeat (first | assumption | exact below_drew hb9 | exact Below.refl _ _ | refine Below.drew ?_))))
          (first
            | (go_at_call 34; refine (unhide HCK _ (HB5.out.trans (Below.mono (by repeat (first | assumption | exact Below.refl _ _ | refine Below.drew ?_)) HB5.out.size))).mono ?_; rintro e w9 ⟨rfl, hb9⟩)))
        have hb9' := hb5.trans ((below_drew hb9).mono hb5.size)
        have hbw9 := hbw.trans (hb9'.mono hbw.size)
        have hA9 := hA5.below (below_drew hb9)
        have HA9 : Hid (Arr w9 wr.heap.size 38 (enV x)) := hA9
        clear hA5 hw5 hb5 hb9 hA9 HC5 HCK
        by_cases hc0 : cn = 0
        · have hcd : (cn != 0) = false := by rw [hc0]; rfl
          cases hsn : sndE x with
          | true =>
            rw [hsn] at HSD
            have HST2 := hide (HST.out.2.2 hc0 hsn)
            clear HST hc0 hsn hcn hsx
            go_wp2_with (first
              | (refine wpList_load_mid rfl 38 (.tmp 4) rfl wr.heap.size 0 rfl (enV x) _ HA9.out.range Tryd.underlying38 rfl (infoEof HOK.out) ?_)
              | (go_at_call 35; refine (unhide HSD w9).mono ?_; rintro e w10 ⟨rfl, hb10⟩))
            have hbw10 := hbw9.trans (hb10.mono hbw9.size)
            go_roundw
            case rel => exact ⟨i + 1, by omega, by go_num, hbw10, HST2⟩
            case measure => simp [intOf]; omega
          | false =>
            rw [hsn] at HSD
            have HST2 := hide (HST.out.2.1 hc0 hsn)
            clear HST hc0 hsn hcn hsx
            go_wp2_with (first
              | (refine wpList_load_mid rfl 38 (.tmp 4) rfl wr.heap.size 0 rfl (enV x) _ HA9.out.range Tryd.underlying38 rfl (infoEof HOK.out) ?_)
              | (go_at_call 35; refine (unhide HSD w9).mono ?_; rintro e w10 ⟨rfl, hb10⟩))
            have hbw10 := hbw9.trans (hb10.mono hbw9.size)
            go_ret
            exact ⟨by rw [HST2.out]; rfl, hbw10⟩
        · have hcd : (cn != 0) = true := by simpa using hc0
          have HST2 := hide (HST.out.1 hc0)
          clear HST hc0 hcn hsx
          go_wp2
          go_ret
          exact ⟨by rw [HST2.out]; rfl, hbw9⟩
      · have hltI : ¬ (i : Int) < (n : Int) := by omega
        have HF : Hid (q = 0) := by
          show _ = _
          rw [HI.out, List.drop_eq_nil_of_le (by rw [← HN.out]; omega)]
          rfl
        go_wp2
        go_ret
        exact ⟨by rw [HF.out]; rfl, hbw⟩
end Go.Proofs.YtpklbchbldipnabDoor

namespace Go.Proofs.YtpklbchbldipnabDoor
open Go.RowKit Go.Maps

/-- Nothing is changed but blocks from B on of the types T, and new ones. -/
structure Ch (B : Nat) (T : TypeId → Prop) (w w' : World) : Prop where
  os : w'.os = w.os
  tape : w'.tape = w.tape
  output : w'.output = w.output
  size : w.heap.size ≤ w'.heap.size
  block : ∀ k, k < w.heap.size → (k < B ∨ ∀ cs t m, w.heap[k]? = some (.cells cs t m) → ¬ T t) → w'.heap[k]? = w.heap[k]?
theorem Ch.refl (B : Nat) (T : TypeId → Prop) (w : World) : Ch B T w w := ⟨rfl, rfl, rfl, Nat.le_refl _, fun _ _ _ => rfl⟩
theorem Ch.trans {B : Nat} {T : TypeId → Prop} {a b c : World} (h : Ch B T a b) (k : Ch B T b c) : Ch B T a c :=
  ⟨k.os.trans h.os, k.tape.trans h.tape, k.output.trans h.output, Nat.le_trans h.size k.size, fun i hi ho => (k.block i (Nat.lt_of_lt_of_le hi h.size) (by rw [h.block i hi ho]; exact ho)).trans (h.block i hi ho)⟩
theorem Ch.of_below {B : Nat} {T : TypeId → Prop} {w w' : World} (h : Below w.heap.size w w') : Ch B T w w' := ⟨h.os, h.tape, h.output, h.size, fun k hk _ => h.block k hk⟩
theorem Ch.below {B : Nat} {T : TypeId → Prop} {w w' : World} (h : Ch B T w w') (hB : B ≤ w.heap.size) : Below B w w' := ⟨h.os, h.tape, h.output, h.size, fun k hk => h.block k (by omega) (Or.inl hk)⟩
theorem Ch.of_grown {B g : Nat} {T : TypeId → Prop} {w w' : World} {cs : Array Value} {t : TypeId} {m : Nat × Nat} (hg : w.grownBy w' (some g)) (hb : B ≤ g) (h : w.heap[g]? = some (.cells cs t m)) (ht : T t) : Ch B T w w' :=
  ⟨hg.os, hg.tape, hg.output, hg.size, fun k hk ho => hg.block k hk (fun e => by
    injection e with e
    subst e
    rcases ho with ho | ho
    · omega
    · exact ho _ _ _ h ht)⟩
theorem Ch.of_owns {B b : Nat} {T : TypeId → Prop} {w w' : World} {t : TypeId} {s n : Nat} {v : Value} {cs : List Value} (h : w.ownsRow b t s v n cs) (hb : B ≤ b) (hg : w.grownBy w' v.ownBlock) (ht : T t) : Ch B T w w' := by
  rcases h.2 with ⟨rfl, _⟩ | ⟨g, cap, cur, rfl, hb2, hgg, _⟩
  · exact Ch.of_below ⟨hg.os, hg.tape, hg.output, hg.size, fun k hk => hg.block k hk (fun e => by cases e)⟩
  · exact Ch.of_grown hg (Nat.le_trans hb hb2) hgg ht
theorem Ch.mono {B B' : Nat} {T T' : TypeId → Prop} {w w' : World} (h : Ch B T w w') (hb : B' ≤ B) (ht : ∀ t, T t → T' t) : Ch B' T' w w' :=
  ⟨h.os, h.tape, h.output, h.size, fun k hk ho => h.block k hk (ho.imp (fun h => Nat.lt_of_lt_of_le h hb) fun h cs t m e hT => h cs t m e (ht t hT))⟩
theorem Ch.cells {B g : Nat} {T : TypeId → Prop} {w w' : World} {cs : Array Value} {t : TypeId} {m : Nat × Nat} (hc : Ch B T w w') (h : w.heap[g]? = some (.cells cs t m)) (ht : ¬ T t) : w'.heap[g]? = some (.cells cs t m) := by
  rw [hc.block g (Array.getElem?_eq_some_iff.1 h).1 (Or.inr fun cs' t' m' e => by
    rw [h] at e
    simp only [Option.some.injEq, Obj.cells.injEq] at e
    exact e.2.1 ▸ ht)]
  exact h
theorem Ch.owns {B b : Nat} {T : TypeId → Prop} {w w' : World} {t : TypeId} {s n : Nat} {v : Value} {cs : List Value} (hc : Ch B T w w') (h : w.ownsRow b t s v n cs) (ht : ¬ T t) : w'.ownsRow b t s v n cs := by
  refine ⟨h.1, ?_⟩
  rcases h.2 with hn | ⟨g, cap, cur, rfl, hb, hgg, rest⟩
  · exact .inl hn
  · exact .inr ⟨g, cap, cur, rfl, hb, hc.cells hgg ht, rest⟩
theorem Arr.ch {w w' : World} {g B : Nat} {t : TypeId} {T : TypeId → Prop} {cs : List Value} (h : Arr w g t cs) (hc : Ch B T w w') (ht : ¬ T t) : Arr w' g t cs := hc.cells h ht
/-- Bytes alone. -/
def U8 (t : TypeId) : Prop := t = 5
theorem u8_en : ¬ U8 38 := by unfold U8; decide
theorem u8_key : ¬ U8 32 := by unfold U8; decide
theorem Own8.ch {w w' : World} {B : Nat} {v : Value} {xs : List Int} (h : Own8 w B v xs) (hg : w.grownBy w' v.ownBlock) : Ch B U8 w w' := Ch.of_owns h.1 (Nat.le_refl _) hg rfl
theorem belowCh {B : Nat} {T : TypeId → Prop} {a w w' : World} (h : Below B a w) (hc : Ch B T w w') (hB : B ≤ w.heap.size) : Below B a w' := h.trans (hc.below hB)
/-- A text's bytes in new memory. -/
theorem conv_str {x : List Int} (hx : Byt x) (hl : x.length ≤ 140737488360000) (w : World) : ∃ v w', (convert 9 25 (.string (mkS x))).run Tryd.prog w = .ok v w' ∧ IsB w' v x ∧ Below w.heap.size w w' := by
  refine ⟨_, _, Lib.run_convert_string_bytes w 9 25 5 (mkS x) Tryd.underlying9 Tryd.underlying25 Tryd.underlying5, ?_, ?_⟩
  · refine ⟨bytes_mem hx, some ⟨w.heap.size, 0, none⟩, _, by rw [mkS_size], ?_, ?_, fun h => (by cases h), fun _ => ⟨w.heap.size, 0, rfl, fun j hj => ?_⟩⟩
    · rw [← mkS_size x]; exact grownCap_ge _ _ _ _
    · have := grownCap_le_maxLen w (mkS x).size 0 5 (by rw [mkS_size]; unfold maxLen; omega)
      rw [mkS_size] at this
      simpa [maxLen] using this
    · rw [Nat.zero_add, Lib.bytesWorld_cell w 5 (mkS x) j (by rw [mkS_size]; exact hj)]
      have := byt_mkS hx j
      rw [← this]
      rfl
  · exact ⟨rfl, rfl, rfl, by rw [Lib.bytesWorld_size]; omega, fun k hk => Lib.bytesWorld_at_old w _ _ k hk⟩
section
variable {ops : Array Oper} {rest : List Oper} {o : Oper} {a : Act} {Q : Exit → Act → World → Prop} {w : World} {K : Act → World → Prop} {E : Prop}
theorem wpList_conv (hw : Region.wanted o (yielded ops a.tmps) = true) (x : Operand) (ho : o.op = .convert 9 25 x) {xs : List Int} (hx : a.eval x = .string (mkS xs)) (hb : Byt xs) (hl : xs.length ≤ 140737488360000)
    (hk : ∀ v w', IsB w' v xs → Below w.heap.size w w' → wpList Tryd.prog ops Q rest (a.put o.dst v) w') : wpList Tryd.prog ops Q (o :: rest) a w := by
  obtain ⟨v, w', hr, h1, h2⟩ := conv_str hb hl w
  refine wpList_on hw fun K hK => ?_
  unfold Oper.wp execOp
  simp only [ho, hx, Sem.run_bind, hr, Result.andThen_ok, Sem.run_pure]
  exact hK _ _ (hk v w' h1 h2)
end
/-- An array's bytes as a slice. -/
theorem isB_range {w : World} {g k : Nat} {xs : List Int} (h : w.rangeAt g k (xs.map (Value.int .u8))) (hb : Byt xs) (hl : xs.length = 32) : IsB w (.slice (some ⟨g, k, none⟩) 32 32) xs := by
  refine ⟨bytes_mem hb, some ⟨g, k, none⟩, 32, by rw [hl], by omega, by decide, fun h => (by cases h), fun _ => ⟨g, k, rfl, fun j hj => ?_⟩⟩
  refine h j _ ?_
  rw [List.getElem?_map, List.getElem?_eq_getElem hj, List.getD_eq_getElem?_getD, List.getElem?_eq_getElem hj]
  rfl
theorem isB_one1 (w : World) (x : Int) (h : 0 ≤ x ∧ x ≤ 255) : IsB (w.alloc (.cells #[.int .u8 x] 5)) (.slice (some ⟨w.heap.size, 0, none⟩) 1 1) [x] := isB_lit w [x] (by simpa using h) (by simp)
theorem lit_blw (w : World) (o : Obj) : Below w.heap.size w (w.alloc o) := (Below.refl _ _).alloc (Nat.le_refl _) _
/-- The parts of an entry in a block of its own. -/
structure EnAt (w : World) (g : Nat) (e : Ent) : Prop where
  nm : w.cell? ⟨g, 0, none⟩ = some (.string (mkS e.nm))
  dir : w.cell? ⟨g, 1, none⟩ = some (.bool e.dir)
  fi : w.cell? ⟨g, 66, none⟩ = some (.int .i64 e.fi)
  ln : w.cell? ⟨g, 67, none⟩ = some (.int .i64 e.ln)
  key : IsB w (.slice (some ⟨g, 2, none⟩) 32 32) e.key
  hash : IsB w (.slice (some ⟨g, 34, none⟩) 32 32) e.hash
theorem enAt {w : World} {g : Nat} {e : Ent} (h : Arr w g 38 (enV e)) (hk : EntOk e) : EnAt w g e :=
  ⟨by rw [h.cell 0]; rfl, by rw [h.cell 1]; rfl, by rw [h.cell 66]; exact (enV_fi hk).1, by rw [h.cell 67]; exact (enV_fi hk).2,
    isB_range (by have := range_part (k := 2) (o := 0) h.range (enV_key e); simpa using this) hk.key.2 hk.key.1,
    isB_range (by have := range_part (k := 34) (o := 0) h.range (enV_hash hk); simpa using this) hk.hash.2 hk.hash.1⟩
end Go.Proofs.YtpklbchbldipnabDoor
