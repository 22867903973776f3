/- The document's entry and rest. -/
import Derived.Test.YtpklbchbldipnabDoorNAd
namespace Go.Proofs.YtpklbchbldipnabDoor
open Go.RowKit Go.Maps

theorem results_row3 {fn : Func} {p q r : Tmp} {t : TypeId} {d : TypeDesc} {g : Nat} {tmps : Array Value} {w : World} {cs : List Value} (h : fn.results = #[.cell p t, .tmp q, .tmp r]) (ha : tmps.getD p undef = .pointer (some ⟨g, 0, none⟩)) (hA : Arr w g t cs) (hu : Tryd.prog.underlying t = some d) (hd : d.isRow = true) (hi : (Tryd.prog.info? t).map (·.size) = some cs.length) :
    (results fn tmps).run Tryd.prog w = .ok (.tuple #[.agg cs.toArray, tmps.getD q undef, tmps.getD r undef]) w := by
  have h1 := run_loadVar_mid (P := Tryd.prog) w g 0 t cs d hA.range hu hd hi
  have ha' : tmps[p]?.getD undef = .pointer (some ⟨g, 0, none⟩) := by simpa using ha
  simp [results, h, asAddr, ha', h1]
/-- Why the document sees no name. -/
def nmD (b : List Int) : Int :=
  if (rU 0 0 b).2.2 ≠ 0 then 80 else if 64 < (rU 0 0 b).1 then 81 else if ((b.drop (rU 0 0 b).2.1).length : Int) < (rU 0 0 b).1 then 80
  else if nbL (nmB b) = false then 81 else 0
theorem nmE_D (ah : Option (List Int)) (b : List Int) : nmE nbL ah b = if nmD b ≠ 0 then nmD b else if late ah (nmB b) = true then 83 else 0 := by
  by_cases h1 : (rU 0 0 b).2.2 ≠ 0
  · have hE : nmD b = 80 := by unfold nmD; rw [if_pos h1]
    rw [hE, if_pos (by decide)]
    unfold nmE
    rw [if_pos h1]
  by_cases h2 : 64 < (rU 0 0 b).1
  · have hE : nmD b = 81 := by unfold nmD; rw [if_neg h1, if_pos h2]
    rw [hE, if_pos (by decide)]
    unfold nmE
    rw [if_neg h1, if_pos h2]
  by_cases h3 : ((b.drop (rU 0 0 b).2.1).length : Int) < (rU 0 0 b).1
  · have hE : nmD b = 80 := by unfold nmD; rw [if_neg h1, if_neg h2, if_pos h3]
    rw [hE, if_pos (by decide)]
    unfold nmE
    rw [if_neg h1, if_neg h2, if_pos h3]
  have hN : nmE nbL ah b = chkN nbL ah (nmB b) := by unfold nmE nmB; rw [if_neg h1, if_neg h2, if_neg h3]
  rw [hN]
  unfold chkN
  by_cases h4 : nbL (nmB b) = false
  · have hE : nmD b = 81 := by unfold nmD; rw [if_neg h1, if_neg h2, if_neg h3, if_pos h4]
    rw [hE, if_pos h4, if_pos (by decide)]
  · have hE : nmD b = 0 := by unfold nmD; rw [if_neg h1, if_neg h2, if_neg h3, if_neg h4]
    rw [hE, if_neg h4]
    rfl
theorem Told40.iff64 {V N : Int} (h : Told40 V N) (k : Int) (hk : k ≤ 1000000) : (k < N ↔ k < V) ∧ (¬ k < V → 0 ≤ k → N = V) := by
  obtain ⟨h1, h2, h3, h4⟩ := h
  by_cases hv : V < 4398046511104
  · rw [h3 hv]
    exact ⟨Iff.rfl, fun _ _ => rfl⟩
  · have := h4 (by omega)
    constructor
    · constructor <;> intro <;> omega
    · intro; omega
/-- What the document's entry leaves. -/
def DEnt (w : World) (er : Int) (nm : List Int) (pk : Nat) (e : Ending) (w' : World) : Prop :=
  Below w.heap.size w w' ∧ (er ≠ 0 → ∃ x u, EntOk x ∧ e = .returned (.tuple #[.agg (enV x).toArray, .int .i64 u, .int .i64 er])) ∧ (er = 0 → e = .returned (.tuple #[.agg (enV { zEn with nm := nm }).toArray, .int .i64 (pk : Int), .int .i64 0]))
set_option maxRecDepth 100000 in
set_option maxHeartbeats 4000000 in
theorem dentry_calls {w : World} {a : Option Addr} {n c p : Nat} {xs : List Int} (h : IsB w (.slice a n c) xs) (hp : p ≤ n) (hnl : n ≤ 1048576) :
    Calls Tryd.prog 44 #[.slice a n c, .int .i64 (p : Int)] w fun e w' => DEnt w (nmD (xs.drop p)) (nmB (xs.drop p)) (p + nmK (xs.drop p)) e w' := by
  have hn := h.lenEq
  have hbt : Byt xs := h.mem
  have hb1 := lit_blw w (.cells z68.toArray 38)
  have hb2 := lit_blw (w.alloc (.cells z68.toArray 38)) (.cells z68.toArray 38)
  have hbb := below_then hb1 hb2
  have hA1 := (Arr.new w z68 38).below hb2
  have hA2 := Arr.new (w.alloc (.cells z68.toArray 38)) z68 38
  rw [size_alloc] at hA2
  have hok0 : EntOk zEn := ⟨by decide, ⟨by decide, by decide⟩, ⟨by decide, by decide⟩⟩
  have HOK0 := hide hok0
  have HRD := hide (read_calls (h.below hbb) hp hnl)
  have HI := hide (h.below hbb)
  have HA1 := hide hA1
  have HA2 := hide hA2
  have HB := hide hbb
  have HN := hide hn
  have HBT := hide hbt
  have hcc : c ≤ 9223372036854775807 := by
    obtain ⟨_, a', c', hv, _, h2, _⟩ := h
    injection hv with e1 e2 e3
    omega
  have hnc : n ≤ c := h.room
  have HZ : Hid (enV zEn = z68) := zEn_V
  have hdl : (xs.drop p).length = n - p := by rw [List.length_drop, hn]
  clear h hn hbt hb1 hb2 hbb hA1 hA2 hok0
  by_cases h1 : (rU 0 0 (xs.drop p)).2.2 = 0
  · have hok := rU_ok (l := xs.drop p) (i := 0) (acc := 0) (fun x hx => HBT.out x (List.mem_of_mem_drop hx)) (Int.le_refl 0) h1
    rw [hdl] at hok
    by_cases h2 : 64 < (rU 0 0 (xs.drop p)).1
    · have HE : Hid (nmD (xs.drop p) = 81) := by show _ = _; unfold nmD; rw [if_neg (by simpa using h1), if_pos h2]
      rw [HE.out]
      have HV := hide h1
      generalize hR : rU 0 0 (xs.drop p) = R at *
      clear hR
      go_enter Tryd.func44, Tryd.ntmps44
      go_wp2_with (refine wpList_allocZ rfl 38 rfl infoEn ?_)
      try simp only [size_alloc]
      generalize (w.alloc (.cells z68.toArray 38)).alloc (.cells z68.toArray 38) = w2 at *
      refine (unhide HRD).mono ?_
      rintro e w3 ⟨hw3, _, hyes⟩
      obtain rfl := hw3.symm
      obtain ⟨N, hT, rfl⟩ := hyes HV.out
      have hN1 : ¬ N < 0 := by have := hT.1; omega
      have hN2 : 64 < N := ((hT.iff64 64 (by decide)).1).2 (by omega)
      clear h1 h2 hok
      clear hw3 hyes HRD
      go_wp2_with (first
        | (refine wpList_load_mid rfl 38 (.tmp 7) rfl (w.heap.size + 1) 0 rfl z68 _ HA2.out.range Tryd.underlying38 rfl (by rw [z68_len]; exact infoEz) ?_)
        | (refine wpList_storeAll rfl (.tmp 4) (.tmp 21) 38 rfl rfl rfl HA1.out (by rw [z68_len]; exact infoEz) rfl (by rw [← HZ.out]; exact enV_one zEn) ?_; intro w5 hA5 hw5))
      refine bodyPost_ret (results_row3 rfl rfl hA5 Tryd.underlying38 rfl (by rw [z68_len]; exact infoEz)) rfl ⟨hw5.below _ _ HB.out (Nat.le_refl _), fun _ => ⟨zEn, 0, HOK0.out, by rw [HZ.out]; rfl⟩, fun h => (by cases h)⟩
    · have hd2 : ((xs.drop p).drop (rU 0 0 (xs.drop p)).2.1).length = n - p - (rU 0 0 (xs.drop p)).2.1 := by rw [List.length_drop, hdl]
      by_cases h3 : (((xs.drop p).drop (rU 0 0 (xs.drop p)).2.1).length : Int) < (rU 0 0 (xs.drop p)).1
      · have HE : Hid (nmD (xs.drop p) = 80) := by show _ = _; unfold nmD; rw [if_neg (by simpa using h1), if_neg h2, if_pos h3]
        rw [HE.out]
        have HV := hide h1
        generalize hR : rU 0 0 (xs.drop p) = R at *
        clear hR
        go_enter Tryd.func44, Tryd.ntmps44
        go_wp2_with (refine wpList_allocZ rfl 38 rfl infoEn ?_)
        try simp only [size_alloc]
        generalize (w.alloc (.cells z68.toArray 38)).alloc (.cells z68.toArray 38) = w2 at *
        refine (unhide HRD).mono ?_
        rintro e w3 ⟨hw3, _, hyes⟩
        obtain rfl := hw3.symm
        obtain ⟨N, hT, rfl⟩ := hyes HV.out
        have hN1 : ¬ N < 0 := by have := hT.1; omega
        have hNV := (hT.iff64 64 (by decide)).2 (by omega) (by decide)
        have hN2 : ¬ 64 < N := by omega
        obtain ⟨pf, hpf⟩ : ∃ pf, p + R.2.1 = pf := ⟨_, rfl⟩
        have hN3 : (n : Int) - (pf : Int) < N := by rw [hNV]; omega
        have hpn : pf ≤ n := by omega
        simp only [hpf]
        clear h1 h2 h3 hok hNV hd2 hpf
        clear hw3 hyes HRD
        go_wp2_with (first
          | (refine wpList_load_mid rfl 38 (.tmp 7) rfl (w.heap.size + 1) 0 rfl z68 _ HA2.out.range Tryd.underlying38 rfl (by rw [z68_len]; exact infoEz) ?_)
          | (refine wpList_storeAll rfl (.tmp 4) (.tmp 28) 38 rfl rfl rfl HA1.out (by rw [z68_len]; exact infoEz) rfl (by rw [← HZ.out]; exact enV_one zEn) ?_; intro w5 hA5 hw5))
        refine bodyPost_ret (results_row3 rfl rfl hA5 Tryd.underlying38 rfl (by rw [z68_len]; exact infoEz)) rfl ⟨hw5.below _ _ HB.out (Nat.le_refl _), fun _ => ⟨zEn, 0, HOK0.out, by rw [HZ.out]; rfl⟩, fun h => (by cases h)⟩
      · have HNL := hide hok
        have hV0 := hok.1
        obtain ⟨m, hm⟩ : ∃ m : Nat, (rU 0 0 (xs.drop p)).1 = (m : Int) := ⟨_, (Int.toNat_of_nonneg hok.1).symm⟩
        obtain ⟨pf, hpf⟩ : ∃ pf, p + (rU 0 0 (xs.drop p)).2.1 = pf := ⟨_, rfl⟩
        obtain ⟨t2, ht2⟩ : ∃ t2, pf + m = t2 := ⟨_, rfl⟩
        have hmI : (m : Int) ≤ 64 := by omega
        have hpt : t2 ≤ n := by omega
        have HNB : Hid (nmB (xs.drop p) = (xs.drop pf).take (t2 - pf)) := by
          show _ = _
          unfold nmB
          rw [List.drop_drop, hpf, hm, Int.toNat_natCast, show t2 - pf = m by omega]
        have HNK : Hid (((p + nmK (xs.drop p) : Nat) : Int) = (t2 : Int)) := by
          show _ = _
          unfold nmK
          rw [hm, Int.toNat_natCast]
          omega
        have HD : Hid (nmD (xs.drop p) = if nbL (nmB (xs.drop p)) = false then 81 else 0) := by show _ = _; unfold nmD; rw [if_neg (by simpa using h1), if_neg h2, if_neg h3]
        have HBN : Hid (Byt (nmB (xs.drop p))) := fun x hx => HBT.out x (List.mem_of_mem_drop (List.mem_of_mem_drop (List.mem_of_mem_take hx)))
        have HSB := hide (HI.out.sub (q := pf) (t := t2) (by omega) hpt)
        have hsl := slice_lh a n c pf t2 (by omega) (by omega)
        have HNMC : Hid (∀ W, Calls Tryd.prog 61 #[.string (mkS (nmB (xs.drop p)))] W fun e w' => e = .returned (.bool (nbL (nmB (xs.drop p)))) ∧ w' = W) := fun W => rname_calls _ (by rw [mkS_size, HNB.out, List.length_take]; omega) _ (name_iff _) W
        rw [← HNB.out] at HSB
        have HV := hide h1
        have hR2 : (rU 0 0 (xs.drop p)).2.1 = pf - p := by omega
        rw [hm] at h2
        generalize nmD (xs.drop p) = er at *
        generalize nmB (xs.drop p) = nm at *
        generalize p + nmK (xs.drop p) = pk at *
        have HOK1 : Hid (EntOk { zEn with nm := nm }) := ⟨HBN.out, HOK0.out.key, HOK0.out.hash⟩
        go_enter Tryd.func44, Tryd.ntmps44
        go_wp2_with (refine wpList_allocZ rfl 38 rfl infoEn ?_)
        try simp only [size_alloc]
        generalize (w.alloc (.cells z68.toArray 38)).alloc (.cells z68.toArray 38) = w2 at *
        refine (unhide HRD).mono ?_
        rintro e w3 ⟨hw3, _, hyes⟩
        obtain rfl := hw3.symm
        obtain ⟨N, hT, rfl⟩ := hyes HV.out
        have hNV : N = (m : Int) := by
          rw [← hm]
          exact (hT.iff64 64 (by decide)).2 (by omega) (by decide)
        subst hNV
        simp only [hpf]
        have hN3 : ¬ (n : Int) - (pf : Int) < (m : Int) := by omega
        have hpn : pf ≤ n := by omega
        have hJ : (pf : Int) + (m : Int) = (t2 : Int) := by omega
        have hcv := conv_isB HSB.out
        have hc0 := HA2.out.cell 0
        have hf0 := HA2.out.frozen 0
        have hc0' : w2.cell? ⟨w.heap.size + 1, 0, none⟩ = some (.string ByteArray.empty) := by rw [hc0]; rfl
        have HA3 : Hid (Arr (w2.setCell ⟨w.heap.size + 1, 0, none⟩ (.string (mkS nm))) (w.heap.size + 1) 38 (enV { zEn with nm := nm })) := by
          have := HA2.out.set 0 (.string (mkS nm))
          rw [← HZ.out, enV_nm] at this
          exact this
        have hm3 : (w2.setCell ⟨w.heap.size + 1, 0, none⟩ (.string (mkS nm))).cell? ⟨w.heap.size + 1, 0, none⟩ = some (.string (mkS nm)) := by rw [HA3.out.cell 0]; rfl
        have HA31 : Hid (Arr (w2.setCell ⟨w.heap.size + 1, 0, none⟩ (.string (mkS nm))) w.heap.size 38 z68) := HA1.out.other _ _ (by show w.heap.size ≠ w.heap.size + 1; omega)
        have HB3 : Hid (Below w.heap.size w (w2.setCell ⟨w.heap.size + 1, 0, none⟩ (.string (mkS nm)))) := HB.out.setCell (p := ⟨w.heap.size + 1, 0, none⟩) (Nat.le_succ _) _
        clear hw3 hyes HRD hc0 hT h1 h2 h3 hok hd2 hpf ht2 hm hR2
        go_wp2_with fail
        refine (unhide HNMC _).mono ?_
        rintro e w4 ⟨rfl, hw4⟩
        obtain rfl := hw4.symm
        clear hw4 hm3 hc0' hf0 hcv hsl
        generalize w2.setCell ⟨w.heap.size + 1, 0, none⟩ (.string (mkS nm)) = w4 at *
        cases hnb : nbL nm with
        | false =>
          rw [hnb, if_pos rfl] at HD
          clear hnb
          go_wp2_with (first
            | (refine wpList_load_mid rfl 38 (.tmp 7) rfl (w.heap.size + 1) 0 rfl (enV { zEn with nm := nm }) _ HA3.out.range Tryd.underlying38 rfl (infoEof HOK1.out) ?_)
            | (refine wpList_storeAll rfl (.tmp 4) (.tmp 41) 38 rfl rfl rfl HA31.out (infoEof HOK1.out) (by rw [z68_len, enV_len HOK1.out]) (enV_one _) ?_; intro w5 hA5 hw5))
          refine bodyPost_ret (results_row3 rfl rfl hA5 Tryd.underlying38 rfl (infoEof HOK1.out)) rfl ⟨hw5.below _ _ HB3.out (Nat.le_refl _), fun _ => ⟨_, 0, HOK1.out, by rw [HD.out]; rfl⟩, fun h => absurd h (by rw [HD.out]; decide)⟩
        | true =>
          rw [hnb, if_neg (by decide)] at HD
          clear hnb
          go_wp2_with (first
            | (refine wpList_load_mid rfl 38 (.tmp 7) rfl (w.heap.size + 1) 0 rfl (enV { zEn with nm := nm }) _ HA3.out.range Tryd.underlying38 rfl (infoEof HOK1.out) ?_)
            | (refine wpList_storeAll rfl (.tmp 4) (.tmp 42) 38 rfl rfl rfl HA31.out (infoEof HOK1.out) (by rw [z68_len, enV_len HOK1.out]) (enV_one _) ?_; intro w5 hA5 hw5))
          refine bodyPost_ret (results_row3 rfl rfl hA5 Tryd.underlying38 rfl (infoEof HOK1.out)) rfl ⟨hw5.below _ _ HB3.out (Nat.le_refl _), fun h => absurd HD.out h, fun _ => by rw [HNK.out]; rfl⟩
  · have HE : Hid (nmD (xs.drop p) = 80) := by show _ = _; unfold nmD; rw [if_pos h1]
    rw [HE.out]
    have HNO := hide h1
    clear h1
    go_enter Tryd.func44, Tryd.ntmps44
    go_wp2_with (refine wpList_allocZ rfl 38 rfl infoEn ?_)
    try simp only [size_alloc]
    generalize (w.alloc (.cells z68.toArray 38)).alloc (.cells z68.toArray 38) = w2 at *
    refine (unhide HRD).mono ?_
    rintro e w3 ⟨hw3, hno, _⟩
    obtain rfl := hw3.symm
    obtain rfl := hno HNO.out
    clear hw3 hno HRD
    go_wp2_with (first
      | (refine wpList_load_mid rfl 38 (.tmp 7) rfl (w.heap.size + 1) 0 rfl z68 _ HA2.out.range Tryd.underlying38 rfl (by rw [z68_len]; exact infoEz) ?_)
      | (refine wpList_storeAll rfl (.tmp 4) (.tmp 18) 38 rfl rfl rfl HA1.out (by rw [z68_len]; exact infoEz) rfl (by rw [← HZ.out]; exact enV_one zEn) ?_; intro w5 hA5 hw5))
    refine bodyPost_ret (results_row3 rfl rfl hA5 Tryd.underlying38 rfl (by rw [z68_len]; exact infoEz)) rfl ⟨hw5.below _ _ HB.out (Nat.le_refl _), fun _ => ⟨zEn, 0, HOK0.out, by rw [HZ.out]; rfl⟩, fun h => (by cases h)⟩
end Go.Proofs.YtpklbchbldipnabDoor
