/- The document's rest. -/
import Derived.Test.YtpklbchbldipnabDoorNAe
namespace Go.Proofs.YtpklbchbldipnabDoor
open Go.RowKit Go.Maps

theorem enV_keyPut {e : Ent} {k : Nat} (hk : k < e.key.length) (c : Int) : (enV e).set (2 + k) (.int .u8 c) = enV { e with key := e.key.set k c } := by
  unfold enV
  rw [show 2 + k = k + 1 + 1 by omega, List.set_cons_succ, List.set_cons_succ, List.set_append_left _ _ (by simpa using hk), List.map_set]
theorem enV_hashPut {e : Ent} {k : Nat} (h0 : e.key.length = 32) (hk : k < e.hash.length) (c : Int) : (enV e).set (34 + k) (.int .u8 c) = enV { e with hash := e.hash.set k c } := by
  unfold enV
  rw [show 34 + k = (32 + k) + 1 + 1 by omega, List.set_cons_succ, List.set_cons_succ, List.set_append_right _ _ (by simp [h0]), List.length_map, h0, show 32 + k - 32 = k by omega, List.set_append_left _ _ (by simpa using hk), List.map_set]
theorem set_take {l : List Int} {k : Nat} (h : k < l.length) (c : Int) : (l.set k c).take (k + 1) = l.take k ++ [c] := by
  rw [List.take_succ_eq_append_getElem (by rw [List.length_set]; exact h)]
  have e : (l.set k c).take k = l.take k := by
    refine List.ext_getElem (by simp) fun i h1 h2 => ?_
    rw [List.length_take] at h1
    rw [List.getElem_take, List.getElem_take, List.getElem_set_ne (by omega)]
  rw [e]
  simp
def dR (nm t : List Int) : Int := if t.length < 73 ∨ 1 < t.headD 0 then 80 else if sndE (restE nm t) = false then 80 else 0
/-- What the document's rest leaves. -/
def DRest (w : World) (er : Int) (x : Ent) (pk : Nat) (e : Ending) (w' : World) : Prop :=
  Below w.heap.size w w' ∧ (er ≠ 0 → ∃ x' u, EntOk x' ∧ e = .returned (.tuple #[.agg (enV x').toArray, .int .i64 u, .int .i64 er])) ∧ (er = 0 → e = .returned (.tuple #[.agg (enV x).toArray, .int .i64 (pk : Int), .int .i64 0]))
/-- Where its loop stands. -/
structure Dst (w W : World) (g3 g6 : Nat) (nm : List Int) (d : Bool) (ky hy : List Int) (k : Nat) (e : Ent) : Prop where
  ok : EntOk e
  nm : e.nm = nm
  dir : e.dir = d
  key : e.key.take k = ky.take k
  hash : e.hash.take k = hy.take k
  en : Arr W g3 38 (enV e)
  re : Arr W g6 38 z68
  old : Below w.heap.size w W
theorem Dst.put {w W : World} {g3 g6 k : Nat} {nm ky hy : List Int} {d : Bool} {e : Ent} (h : Dst w W g3 g6 nm d ky hy k e) (h3 : w.heap.size ≤ g3) (h36 : g6 ≠ g3) (hk : k < 32) (hky : ky.length = 32) (hhy : hy.length = 32) {c1 c2 : Int} (e1 : c1 = ky.getD k 0) (e2 : c2 = hy.getD k 0) (b1 : 0 ≤ c1 ∧ c1 ≤ 255) (b2 : 0 ≤ c2 ∧ c2 ≤ 255) :
    Dst w ((W.setCell ⟨g3, 2 + k, none⟩ (.int .u8 c1)).setCell ⟨g3, 34 + k, none⟩ (.int .u8 c2)) g3 g6 nm d ky hy (k + 1) { ({ e with key := e.key.set k c1 } : Ent) with hash := e.hash.set k c2 } := by
  have l1 := h.ok.key.1
  have l2 := h.ok.hash.1
  refine ⟨⟨h.ok.nm, ⟨by rw [List.length_set]; exact l1, fun x hx => ?_⟩, ⟨by rw [List.length_set]; exact l2, fun x hx => ?_⟩⟩, h.nm, h.dir, ?_, ?_, ?_, (h.re.other _ _ h36).other _ _ h36, (h.old.setCell (p := ⟨g3, 2 + k, none⟩) h3 _).setCell (p := ⟨g3, 34 + k, none⟩) h3 _⟩
  · rcases List.mem_or_eq_of_mem_set hx with hx | rfl
    · exact h.ok.key.2 x hx
    · exact b1
  · rcases List.mem_or_eq_of_mem_set hx with hx | rfl
    · exact h.ok.hash.2 x hx
    · exact b2
  · show (e.key.set k c1).take (k + 1) = _
    rw [set_take (by omega), take_one ky (by omega), h.key, e1]
  · show (e.hash.set k c2).take (k + 1) = _
    rw [set_take (by omega), take_one hy (by omega), h.hash, e2]
  · have hA := (h.en.set (2 + k) (.int .u8 c1)).set (34 + k) (.int .u8 c2)
    rw [enV_keyPut (by omega), enV_hashPut (by show (e.key.set k c1).length = 32; rw [List.length_set]; exact l1) (by show k < e.hash.length; omega)] at hA
    exact hA
set_option maxRecDepth 100000 in
set_option maxHeartbeats 4000000 in
theorem drest_calls {w : World} {a : Option Addr} {n c p : Nat} {xs : List Int} {x : Ent} (h : IsB w (.slice a n c) xs) (hp : p ≤ n) (hnl : n ≤ 1048576) (hx : EntOk x) :
    Calls Tryd.prog 46 #[.agg (enV x).toArray, .slice a n c, .int .i64 (p : Int)] w fun e w' => DRest w (dR x.nm (xs.drop p)) (restE x.nm (xs.drop p)) (p + 73) e w' := by
  have hn := h.lenEq
  have hbt : Byt xs := h.mem
  have hb1 := lit_blw w (.cells (enV x).toArray 38)
  have hb2 := lit_blw (w.alloc (.cells (enV x).toArray 38)) (.cells z68.toArray 38)
  have hbb := below_then hb1 hb2
  have hA1 := (Arr.new w (enV x) 38).below hb2
  have hA2 := Arr.new (w.alloc (.cells (enV x).toArray 38)) z68 38
  rw [size_alloc] at hA2
  have HOK := hide hx
  have HI : Hid (∀ W, Below w.heap.size w W → IsB W (.slice a n c) xs) := fun W hW => h.below hW
  have HA1 := hide hA1
  have HA2 := hide hA2
  have HB := hide hbb
  have HN := hide hn
  have HBT := hide hbt
  have hcc : c ≤ 9223372036854775807 := by
    obtain ⟨_, a', c', hv, _, h2, _⟩ := h
    injection hv with e1 e2 e3
    omega
  have hnc : n ≤ c := h.room
  have hdl : (xs.drop p).length = n - p := by rw [List.length_drop, hn]
  by_cases hs : n - p < 73
  · have HE : Hid (dR x.nm (xs.drop p) = 80) := by show _ = _; unfold dR; rw [if_pos (Or.inl (by omega))]
    have hsI : (n : Int) - (p : Int) < 73 := by omega
    rw [HE.out]
    generalize restE x.nm (xs.drop p) = y at *
    clear h hn hbt hb1 hb2 hbb hA1 hA2 hdl hs
    go_enter Tryd.func46, Tryd.ntmps46
    go_wp2_with (first
      | (refine wpList_allocZ rfl 38 rfl infoEn ?_)
      | (refine wpList_load_mid rfl 38 (.tmp 3) rfl w.heap.size 0 rfl (enV x) _ HA1.out.range Tryd.underlying38 rfl (infoEof HOK.out) ?_)
      | (refine wpList_storeAll rfl (.tmp 6) (.tmp 22) 38 rfl rfl rfl HA2.out (infoEof HOK.out) (by rw [z68_len, enV_len HOK.out]) (enV_one x) ?_; intro w5 hA5 hw5))
    refine bodyPost_ret (results_row3 rfl (by rw [← size_alloc w (.cells (enV x).toArray 38)]; rfl) hA5 Tryd.underlying38 rfl (infoEof HOK.out)) rfl ⟨hw5.below _ _ HB.out (Nat.le_succ _), fun _ => ⟨x, 0, HOK.out, rfl⟩, fun h => (by cases h)⟩
  · have hsI : ¬ (n : Int) - (p : Int) < 73 := by omega
    obtain ⟨b, o, rfl⟩ := h.spot (by omega)
    obtain ⟨hm, hm0, hm1⟩ := (HI.out _ HB.out).byteAt (j := p) (by omega)
    have HHD : Hid ((xs.drop p).headD 0 = xs[p]?.getD 0) := by show _ = _; rw [drop_at (by omega)]; rfl
    have hpI : (p : Int) < (n : Int) := by omega
    by_cases hbig : 1 < xs[p]?.getD 0
    · have HE : Hid (dR x.nm (xs.drop p) = 80) := by show _ = _; unfold dR; rw [if_pos (Or.inr (by rw [HHD.out]; exact hbig))]
      rw [HE.out]
      generalize restE x.nm (xs.drop p) = y at *
      generalize xs[p]?.getD 0 = m at *
      clear h hn hbt hb1 hb2 hbb hA1 hA2 hdl hs
      go_enter Tryd.func46, Tryd.ntmps46
      go_wp2_with (first
        | (refine wpList_allocZ rfl 38 rfl infoEn ?_)
        | (refine wpList_load_mid rfl 38 (.tmp 3) rfl w.heap.size 0 rfl (enV x) _ HA1.out.range Tryd.underlying38 rfl (infoEof HOK.out) ?_)
        | (refine wpList_storeAll rfl (.tmp 6) (.tmp 22) 38 rfl rfl rfl HA2.out (infoEof HOK.out) (by rw [z68_len, enV_len HOK.out]) (enV_one x) ?_; intro w5 hA5 hw5))
      refine bodyPost_ret (results_row3 rfl (by rw [← size_alloc w (.cells (enV x).toArray 38)]; rfl) hA5 Tryd.underlying38 rfl (infoEof HOK.out)) rfl ⟨hw5.below _ _ HB.out (Nat.le_succ _), fun _ => ⟨x, 0, HOK.out, rfl⟩, fun h => (by cases h)⟩
    · have HE : Hid (dR x.nm (xs.drop p) = if sndE (restE x.nm (xs.drop p)) = false then 80 else 0) := by show _ = _; unfold dR; rw [if_neg (fun hx => hx.elim (fun h => by omega) (fun h => hbig (by rw [← HHD.out]; exact h)))]
      have HDIR : Hid ((restE x.nm (xs.drop p)).dir = (xs[p]?.getD 0 == 1)) := by
        show decide ((xs.drop p).headD 0 = 1) = _
        rw [HHD.out]
        rfl
      have HP73 : Hid (73 ≤ (xs.drop p).length) := by show _ ≤ _; omega
      have hrp := restE_parts (nm := x.nm) (hbt.drop p) HP73.out
      have HKY : Hid ((restE x.nm (xs.drop p)).key.length = 32) := hrp.2.2.2.1
      have HHY : Hid ((restE x.nm (xs.drop p)).hash.length = 32) := hrp.2.2.2.2.1
      have HKG : Hid (∀ k, k < 32 → xs[p + 1 + k]?.getD 0 = (restE x.nm (xs.drop p)).key.getD k 0) := fun k hk => by
        show _ = (((xs.drop p).drop 1).take 32).getD k 0
        rw [List.getD_eq_getElem?_getD, List.getElem?_take_of_lt hk, List.drop_drop, List.getElem?_drop]
      have HHG : Hid (∀ k, k < 32 → xs[p + 33 + k]?.getD 0 = (restE x.nm (xs.drop p)).hash.getD k 0) := fun k hk => by
        show _ = (((xs.drop p).drop 33).take 32).getD k 0
        rw [List.getD_eq_getElem?_getD, List.getElem?_take_of_lt hk, List.drop_drop, List.getElem?_drop]
      have HFI : Hid ((restE x.nm (xs.drop p)).fi = leN ((xs.drop (p + 65)).take 4)) := by show leN _ = _; rw [List.drop_drop]
      have HLN : Hid ((restE x.nm (xs.drop p)).ln = leN ((xs.drop (p + 69)).take 4)) := by show leN _ = _; rw [List.drop_drop]
      have HNM : Hid ((restE x.nm (xs.drop p)).nm = x.nm) := rfl
      have HYK : Hid (EntOk (restE x.nm (xs.drop p))) := ⟨hx.nm, hrp.2.2.2.2.2.ok.key, hrp.2.2.2.2.2.ok.hash⟩
      obtain ⟨er, her⟩ : ∃ er, dR x.nm (xs.drop p) = er := ⟨_, rfl⟩
      rw [her] at HE ⊢
      obtain ⟨y, hy⟩ : ∃ y, restE x.nm (xs.drop p) = y := ⟨_, rfl⟩
      rw [hy] at HE HDIR HKY HHY HKG HHG HFI HLN HNM HYK ⊢
      obtain ⟨m, hmq⟩ : ∃ m, xs[p]?.getD 0 = m := ⟨_, rfl⟩
      rw [hmq] at hm hm0 hm1 hbig HDIR HHD
      have hbigI : ¬ 1 < m := hbig
      have hc1 : ((w.alloc (.cells (enV x).toArray 38)).alloc (.cells z68.toArray 38)).cell? ⟨w.heap.size, 1, none⟩ = some (.bool x.dir) := by rw [HA1.out.cell 1]; rfl
      have hf1 := HA1.out.frozen 1
      have HD0 : Hid (Dst w ((w.alloc (.cells ((enV x).set 1 (.bool (m == 1))).toArray 38)).alloc (.cells z68.toArray 38)) w.heap.size (w.heap.size + 1) x.nm (m == 1) y.key y.hash 0 { x with dir := (m == 1) }) := by
        have q1 := lit_blw w (.cells (enV { x with dir := (m == 1) }).toArray 38)
        have q2 := lit_blw (w.alloc (.cells (enV { x with dir := (m == 1) }).toArray 38)) (.cells z68.toArray 38)
        have q3 := Arr.new (w.alloc (.cells (enV { x with dir := (m == 1) }).toArray 38)) z68 38
        rw [size_alloc] at q3
        rw [enV_dir]
        exact ⟨⟨HOK.out.nm, HOK.out.key, HOK.out.hash⟩, rfl, rfl, rfl, rfl, (Arr.new w _ _).below q2, q3, below_then q1 q2⟩
      have hsz := size_alloc w (.cells (enV x).toArray 38)
      clear h hn hbt hb1 hb2 hbb hA1 hA2 hdl hs hx hrp hy hmq HHD HP73 hbig her
      go_enter Tryd.func46, Tryd.ntmps46
      go_wp2_with (refine wpList_allocZ rfl 38 rfl infoEn ?_)
      clear hc1 hf1 hm
      generalize (w.alloc (.cells ((enV x).set 1 (.bool (m == 1))).toArray 38)).alloc (.cells z68.toArray 38) = w3 at *
      obtain ⟨p1, hp1⟩ : ∃ p1, p + 1 = p1 := ⟨_, rfl⟩
      obtain ⟨p33, hp33⟩ : ∃ p33, p + 33 = p33 := ⟨_, rfl⟩
      have hJ1 : (p : Int) + 1 = (p1 : Int) := by omega
      have hJ33 : (p : Int) + 33 = (p33 : Int) := by omega
      have HP1 := hide hp1
      have HP33 := hide hp33
      rw [hp1] at HKG
      rw [hp33] at HHG
      obtain ⟨g6, hg6⟩ : ∃ g6, w.heap.size + 1 = g6 := ⟨_, rfl⟩
      obtain ⟨g3, hg3⟩ : ∃ g3, w.heap.size = g3 := ⟨_, rfl⟩
      have HG3 : Hid (w.heap.size ≤ g3) := by show _ ≤ _; omega
      have HG6 : Hid (w.heap.size ≤ g6) := by show _ ≤ _; omega
      have HG36 : Hid (g6 ≠ g3) := by show _ ≠ _; omega
      have HD0' : Hid (Dst w w3 g3 g6 x.nm (m == 1) y.key y.hash 0 { x with dir := (m == 1) }) := by
        rw [← hg3, ← hg6]
        exact HD0.out
      try rw [hsz]
      rw [hg6]
      rw [hg3]
      clear hp1 hp33 hg6 hg3 hsz HD0
      go_loopw [9] (fun iv W => ∃ (k : Nat) (e : Ent), k ≤ 32 ∧ iv = .int .i64 (k : Int) ∧ Dst w W g3 g6 x.nm (m == 1) y.key y.hash k e) (fun i _ => 32 - (intOf i).toNat)
      case atStart => exact ⟨0, _, by omega, rfl, HD0'.out⟩
      case round =>
        clear HD0'
        obtain ⟨k, e, hk32, rfl, hd⟩ := hrel
        by_cases hk : k < 32
        · have hkI : (k : Int) < 32 := by omega
          obtain ⟨q1, hq1⟩ : ∃ q1, p1 + k = q1 := ⟨_, rfl⟩
          obtain ⟨q2, hq2⟩ : ∃ q2, p33 + k = q2 := ⟨_, rfl⟩
          have hJ2 : (p1 : Int) + (k : Int) = (q1 : Int) := by omega
          have hJ3 : (p33 : Int) + (k : Int) = (q2 : Int) := by omega
          have hq1n : (q1 : Int) < (n : Int) := by have := HP1.out; omega
          have hq2n : (q2 : Int) < (n : Int) := by have := HP33.out; omega
          obtain ⟨m1, a1, b1⟩ := (HI.out wr hd.old).byteAt (j := q1) (by omega)
          have hg1 := unhide HKG k hk
          have hg2 := unhide HHG k hk
          rw [hq1] at hg1
          rw [hq2] at hg2
          have HC1 := hide hg1
          have HC2 := hide hg2
          have hcA : ∃ u, wr.cell? ⟨g3, 2 + k, none⟩ = some u := ⟨_, by rw [hd.en.cell (2 + k)]; exact List.getElem?_eq_getElem (by rw [enV_len hd.ok]; omega)⟩
          obtain ⟨uA, hcA⟩ := hcA
          have hfA := hd.en.frozen (2 + k)
          have hcB : ∃ u, (wr.setCell ⟨g3, 2 + k, none⟩ (.int .u8 (xs[q1]?.getD 0))).cell? ⟨g3, 34 + k, none⟩ = some u := ⟨_, by rw [(hd.en.set (2 + k) _).cell (34 + k)]; exact List.getElem?_eq_getElem (by rw [List.length_set, enV_len hd.ok]; omega)⟩
          obtain ⟨uB, hcB⟩ := hcB
          have hfB : (wr.setCell ⟨g3, 2 + k, none⟩ (.int .u8 (xs[q1]?.getD 0))).frozen? ⟨g3, 34 + k, none⟩ = false := (hd.en.set (2 + k) _).frozen (34 + k)
          obtain ⟨m2, a2, b2⟩ := (HI.out _ (hd.old.setCell (p := ⟨g3, 2 + k, none⟩) HG3.out (.int .u8 (xs[q1]?.getD 0)))).byteAt (j := q2) (by omega)
          have HDN := hide (hd.put HG3.out HG36.out hk HKY.out HHY.out (c1 := xs[q1]?.getD 0) (c2 := xs[q2]?.getD 0) HC1.out HC2.out ⟨a1, b1⟩ ⟨a2, b2⟩)
          generalize xs[q1]?.getD 0 = v1 at *
          generalize xs[q2]?.getD 0 = v2 at *
          clear hd hg1 hg2 hq1 hq2 HC1 HC2
          go_wp2
          go_roundw
          case rel => exact ⟨k + 1, _, by omega, by go_num, HDN.out⟩
          case measure => simp [intOf]; omega
        · have hkI : ¬ (k : Int) < 32 := by omega
          have hk2 : k = 32 := by omega
          have HKE : Hid (e.key = y.key) := by
            have := hd.key
            rw [List.take_of_length_le (by rw [hd.ok.key.1]; omega), List.take_of_length_le (by rw [HKY.out]; omega)] at this
            exact this
          have HHE : Hid (e.hash = y.hash) := by
            have := hd.hash
            rw [List.take_of_length_le (by rw [hd.ok.hash.1]; omega), List.take_of_length_le (by rw [HHY.out]; omega)] at this
            exact this
          have HD := hide hd
          obtain ⟨p65, hp65⟩ : ∃ p65, p + 65 = p65 := ⟨_, rfl⟩
          obtain ⟨p69, hp69⟩ : ∃ p69, p + 69 = p69 := ⟨_, rfl⟩
          have hJ65 : (p : Int) + 65 = (p65 : Int) := by omega
          have hJ69 : (p : Int) + 69 = (p69 : Int) := by omega
          have HL1 := hide (less_calls (HI.out wr hd.old) (p := p65) (by omega) hnl)
          rw [hp65] at HFI
          rw [hp69] at HLN
          rw [← HFI.out] at HL1
          have HP69 : Hid (p69 + 4 ≤ n) := by show _ ≤ _; omega
          clear hd hk2 hp65 hp69
          go_wp2_with fail
          refine (unhide HL1).mono ?_
          rintro e1 w5 ⟨rfl, hb5⟩
          have hA5 := HD.out.en.below hb5
          have hR5 := HD.out.re.below hb5
          have hO5 := HD.out.old.trans (hb5.mono HD.out.old.size)
          have hc66 : ∃ u, w5.cell? ⟨g3, 66, none⟩ = some u := ⟨_, by rw [hA5.cell 66]; exact List.getElem?_eq_getElem (by rw [enV_len HD.out.ok]; omega)⟩
          obtain ⟨u66, hc66⟩ := hc66
          have hf66 := hA5.frozen 66
          have HA6 : Hid (Arr (w5.setCell ⟨g3, 66, none⟩ (.int .i64 y.fi)) g3 38 (enV { e with fi := y.fi })) := by
            have := hA5.set 66 (.int .i64 y.fi)
            rw [enV_setFi HD.out.ok.key.1 HD.out.ok.hash.1] at this
            exact this
          have HR6 : Hid (Arr (w5.setCell ⟨g3, 66, none⟩ (.int .i64 y.fi)) g6 38 z68) := hR5.other _ _ HG36.out
          have HO6 : Hid (Below w.heap.size w (w5.setCell ⟨g3, 66, none⟩ (.int .i64 y.fi))) := hO5.setCell (p := ⟨g3, 66, none⟩) HG3.out _
          have HL2 := hide (less_calls (HI.out _ HO6.out) (p := p69) HP69.out hnl)
          rw [← HLN.out] at HL2
          clear hb5 hA5 hR5 hO5 HL1
          go_wp2_with fail
          refine (unhide HL2).mono ?_
          rintro e2 w7 ⟨rfl, hb7⟩
          clear hc66 hf66
          generalize w5.setCell ⟨g3, 66, none⟩ (.int .i64 y.fi) = w6 at *
          have hA7 := HA6.out.below hb7
          have hR7 := HR6.out.below hb7
          have hO7 := HO6.out.trans (hb7.mono HO6.out.size)
          have HEY : Hid (({ ({ e with fi := y.fi } : Ent) with ln := y.ln } : Ent) = y) := by
            show _ = _
            have h1 := HD.out.nm
            have h2 := HD.out.dir
            have h3 := HKE.out
            have h4 := HHE.out
            have h5 := HNM.out
            have h6 := HDIR.out
            obtain ⟨en, ed, ek, eh, ef, el⟩ := e
            obtain ⟨yn, yd, yk, yh, yf, yl⟩ := y
            simp only at h1 h2 h3 h4 h5 h6 ⊢
            subst h3 h4
            rw [h1, h2, h5, h6]
          have hc67 : ∃ u, w7.cell? ⟨g3, 67, none⟩ = some u := ⟨_, by rw [hA7.cell 67]; exact List.getElem?_eq_getElem (by rw [enV_len (e := { e with fi := y.fi }) ⟨HD.out.ok.nm, HD.out.ok.key, HD.out.ok.hash⟩]; omega)⟩
          obtain ⟨u67, hc67⟩ := hc67
          have hf67 := hA7.frozen 67
          have HA8 : Hid (Arr (w7.setCell ⟨g3, 67, none⟩ (.int .i64 y.ln)) g3 38 (enV y)) := by
            have := hA7.set 67 (.int .i64 y.ln)
            rw [enV_setLn (e := { e with fi := y.fi }) HD.out.ok.key.1 HD.out.ok.hash.1, HEY.out] at this
            exact this
          have HR8 : Hid (Arr (w7.setCell ⟨g3, 67, none⟩ (.int .i64 y.ln)) g6 38 z68) := hR7.other _ _ HG36.out
          have HO8 : Hid (Below w.heap.size w (w7.setCell ⟨g3, 67, none⟩ (.int .i64 y.ln))) := hO7.setCell (p := ⟨g3, 67, none⟩) HG3.out _
          have HSD := hide (fun W => rsound_calls HYK.out W)
          clear hb7 hA7 hR7 hO7 HL2 HA6 HR6 HO6
          cases hsn : sndE y with
          | false =>
            rw [hsn] at HE HSD
            go_wp2_with (first
              | (refine wpList_load_mid rfl 38 (.tmp 3) rfl g3 0 rfl (enV y) _ HA8.out.range Tryd.underlying38 rfl (infoEof HYK.out) ?_)
              | (go_at_call 62; refine (unhide HSD _).mono ?_; rintro e3 w9 ⟨rfl, hb9⟩; have hA9 := HA8.out.below hb9; have hR9 := HR8.out.below hb9; have hO9 := HO8.out.trans (hb9.mono HO8.out.size))
              | (refine wpList_load_mid rfl 38 (.tmp 3) rfl g3 0 rfl (enV y) _ hA9.range Tryd.underlying38 rfl (infoEof HYK.out) ?_)
              | (refine wpList_storeAll rfl (.tmp 6) (.tmp 69) 38 rfl rfl rfl hR9 (infoEof HYK.out) (by rw [z68_len, enV_len HYK.out]) (enV_one y) ?_; intro w10 hA10 hw10))
            refine bodyPost_ret (results_row3 rfl rfl hA10 Tryd.underlying38 rfl (infoEof HYK.out)) rfl ⟨hw10.below _ _ hO9 HG6.out, fun _ => ⟨y, 0, HYK.out, by rw [HE.out]; rfl⟩, fun h => absurd h (by rw [HE.out]; decide)⟩
          | true =>
            rw [hsn] at HE HSD
            go_wp2_with (first
              | (refine wpList_load_mid rfl 38 (.tmp 3) rfl g3 0 rfl (enV y) _ HA8.out.range Tryd.underlying38 rfl (infoEof HYK.out) ?_)
              | (go_at_call 62; refine (unhide HSD _).mono ?_; rintro e3 w9 ⟨rfl, hb9⟩; have hA9 := HA8.out.below hb9; have hR9 := HR8.out.below hb9; have hO9 := HO8.out.trans (hb9.mono HO8.out.size))
              | (refine wpList_load_mid rfl 38 (.tmp 3) rfl g3 0 rfl (enV y) _ hA9.range Tryd.underlying38 rfl (infoEof HYK.out) ?_)
              | (refine wpList_storeAll rfl (.tmp 6) (.tmp 70) 38 rfl rfl rfl hR9 (infoEof HYK.out) (by rw [z68_len, enV_len HYK.out]) (enV_one y) ?_; intro w10 hA10 hw10))
            refine bodyPost_ret (results_row3 rfl rfl hA10 Tryd.underlying38 rfl (infoEof HYK.out)) rfl ⟨hw10.below _ _ hO9 HG6.out, fun h => absurd (by rw [HE.out]; rfl) h, fun _ => rfl⟩
end Go.Proofs.YtpklbchbldipnabDoor
