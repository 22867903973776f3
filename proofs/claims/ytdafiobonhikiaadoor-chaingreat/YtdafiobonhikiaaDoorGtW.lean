/- ChainGreat: the walk. -/
import Derived.Test.YtdafiobonhikiaaDoorGtB
import Derived.Deep.DeepCutAuto
namespace Go.Proofs.YtdafiobonhikiaaDoor
open Go.RowKit Go.Maps

theorem acts_neq6 (k : Int) (W : World) : (binOp .neq 52 (.agg #[.int .i64 0, .int .i64 k, .int .i64 0]) (.agg #[.int .i64 0, .int .i64 k, .int .i64 0])).run Tryd.prog W = .ok (.bool false) W := by
  have ui := Tryd.underlying3
  have q1 : ∀ (a b : Int) (W : World), (Op.equalIn 9999 3 (.int .i64 a) (.int .i64 b)).run Tryd.prog W = .ok (a == b) W := fun a b W => run_equalIn_int W 9998 3 .i64 .i64 a b ui
  have p0 := fun W => part_cell6 (cs := [.int .i64 0, .int .i64 k, .int .i64 0]) (o := 0) (v := .int .i64 0) ui rfl rfl W
  have p1 := fun W => part_cell6 (cs := [.int .i64 0, .int .i64 k, .int .i64 0]) (o := 1) (v := .int .i64 k) ui rfl rfl W
  have p2 := fun W => part_cell6 (cs := [.int .i64 0, .int .i64 k, .int .i64 0]) (o := 2) (v := .int .i64 0) ui rfl rfl W
  rw [run_neq_struct, run_equalIn_struct W 9999 52 _ _ (by kernel_rfl) (by kernel_rfl)]
  simp only [Program.fieldsOf, Tryd.underlying52]
  simp only [List.toArray] at *
  simp [Op.eqFields, p0, p1, p2, q1]
theorem acts_guard6 (op : BinOp) (x y : Operand) (xs ys : Array Value) (w : World) : (eqGuard op 52 x y (.agg xs) (.agg ys)).run Tryd.prog w = .ok () w := run_eqGuard_agg w op 52 x y xs ys (by kernel_rfl)
theorem xor_ne6 (n : Nat) (A B : BitVec n) (hB : B ≠ BitVec.ofNat n 0) : (A ^^^ B).toNat ≠ A.toNat := fun h => by
  have h1 : A ^^^ B = A := BitVec.eq_of_toNat_eq h
  have h2 : A ^^^ (A ^^^ B) = A ^^^ A := by rw [h1]
  rw [← BitVec.xor_assoc, BitVec.xor_self, BitVec.zero_xor] at h2
  exact hB h2
theorem xor256 (x : Int) : ∃ y : Int, bits .xor .i64 x 256 = y ∧ (-9223372036854775808 ≤ y ∧ y ≤ 9223372036854775807) ∧ y ≠ x := by
  refine ⟨_, rfl, ?_, ?_⟩
  · show -9223372036854775808 ≤ IntKind.i64.wrap _ ∧ IntKind.i64.wrap _ ≤ 9223372036854775807
    rw [IntKind.wrap_i64]
    omega
  · show IntKind.i64.wrap (((BitVec.ofInt 64 x ^^^ BitVec.ofInt 64 256).toNat : Nat) : Int) ≠ x
    have h1 := xor_ne6 64 (BitVec.ofInt 64 x) (BitVec.ofInt 64 256) (by decide)
    have h2 := (BitVec.ofInt 64 x ^^^ BitVec.ofInt 64 256).isLt
    rw [BitVec.toNat_ofInt] at h1
    generalize (BitVec.ofInt 64 x ^^^ BitVec.ofInt 64 256).toNat = q at *
    rw [IntKind.wrap_i64]
    omega
theorem sound_enter6 (v u z q : Value) (W : World) : (callFunc 9 #[v, u, z, q]).run Tryd.prog W = .ok (.enter 9 #[v, u, z, q]) W := by kernel_rfl
set_option maxRecDepth 100000 in
set_option maxHeartbeats 8000000 in
theorem great_walk {w : World} {ba pa : Option Addr} {bn bc pn pc : Nat} {length sectors from_ : Int} {ap : Bool} {b ps : List Int} (hb : IsB w (.slice ba bn bc) b) (hp : IsT w (.slice pa pn pc) ps) (hT : TT w) :
    Calls Tryd.prog 4 #[.slice ba bn bc, .int .i64 length, .int .i64 sectors, .int .i64 from_, .bool ap, .slice pa pn pc] w fun e w' => e = .returned (.bool true) ∧ Below w.heap.size w w' := by
  obtain ⟨L, hL⟩ : ∃ L : Nat, (wholeI length 0 1048576).toNat = L := ⟨_, rfl⟩
  have hLi := wholeI_in length (show (0 : Int) ≤ 1048576 by omega)
  have hLe : wholeI length 0 1048576 = (L : Int) := by omega
  have hL2 : L ≤ 1048576 := by omega
  obtain ⟨k, hk, hk1, hk9⟩ := secN_nat hL2
  obtain ⟨k2, hk2⟩ : ∃ k2, 2 * k = k2 := ⟨_, rfl⟩
  obtain ⟨k3, hk3⟩ : ∃ k3, k2 + 2 = k3 := ⟨_, rfl⟩
  obtain ⟨n, hn⟩ : ∃ n : Nat, (wholeI sectors (k3 : Int) 65536).toNat = n := ⟨_, rfl⟩
  have hni := wholeI_in sectors (show (k3 : Int) ≤ 65536 by omega)
  have hne : wholeI sectors (k3 : Int) 65536 = (n : Int) := by omega
  obtain ⟨nm, hnm⟩ : ∃ nm, n - k2 = nm := ⟨_, rfl⟩
  obtain ⟨F, hF⟩ : ∃ F : Nat, (wholeI from_ 1 (nm : Int)).toNat = F := ⟨_, rfl⟩
  have hFi := wholeI_in from_ (show (1 : Int) ≤ (nm : Int) by omega)
  have hFe : wholeI from_ 1 (nm : Int) = (F : Int) := by omega
  have hFk : F + 2 * k ≤ n := by omega
  have hF1 : 1 ≤ F := by omega
  have hn6 : n ≤ 65536 := by omega
  have hFn : F < n := by omega
  have ek2 : IntKind.i64.wrap (2 * (k : Int)) = (k2 : Int) := by rw [IntKind.wrap_i64]; omega
  have ek3 : IntKind.i64.wrap ((k2 : Int) + 2) = (k3 : Int) := by rw [IntKind.wrap_i64]; omega
  have enm : IntKind.i64.wrap ((n : Int) - (k2 : Int)) = (nm : Int) := by rw [IntKind.wrap_i64]; omega
  have HW1 : Hid (∀ W, Calls Tryd.prog 13 #[.int .i64 length, .int .i64 0, .int .i64 1048576] W fun e w' => e = .returned (.int .i64 (L : Int)) ∧ w' = W) := hide (fun W => by rw [← hLe]; exact whole6_calls length (by omega) (by omega) (by omega) W)
  have HW2 : Hid (∀ W, Calls Tryd.prog 13 #[.int .i64 sectors, .int .i64 (k3 : Int), .int .i64 65536] W fun e w' => e = .returned (.int .i64 (n : Int)) ∧ w' = W) := hide (fun W => by rw [← hne]; exact whole6_calls sectors (by omega) (by omega) (by omega) W)
  have HW3 : Hid (∀ W, Calls Tryd.prog 13 #[.int .i64 from_, .int .i64 1, .int .i64 (nm : Int)] W fun e w' => e = .returned (.int .i64 (F : Int)) ∧ w' = W) := hide (fun W => by rw [← hFe]; exact whole6_calls from_ (by omega) (by omega) (by omega) W)
  have HSN : Hid (∀ W, Calls Tryd.prog 8 #[.int .i64 (L : Int)] W fun e w' => e = .returned (.int .i64 (k : Int)) ∧ w' = W) := hide (fun W => by rw [← hk]; exact refSectors_calls (L : Int) W)
  have HN1 := hide (new_calls (w := w) (n := n) (by omega) hn6)
  have HN2 : Hid (∀ W, Calls Tryd.prog 15 #[.int .i64 (F : Int), .int .i64 (n : Int)] W fun e w' => ∃ g gw, e = .returned (.tuple #[.pointer (some ⟨g, 0, none⟩), .int .i64 0]) ∧ Sp w' W.heap.size g gw F n (newW (n - F)) ∧ W.heap.size ≤ g ∧ Below W.heap.size W w') := hide (fun W => spNew_calls F n hFn hn6)
  have HNU : Hid (∀ W, Calls Tryd.prog 16 #[.int .i64 0] W fun e w' => e = .returned (.int .i64 0) ∧ w' = W) := hide (fun W => num6_calls 0 W)
  obtain ⟨S, hS⟩ : ∃ S, w.heap.size = S := ⟨_, rfl⟩
  have HGB : Hid (GB ≤ S) := hide (by rw [← hS]; exact hT.size)
  have HSE := hide hS
  have HT := hide hT
  have HB := hide hb
  have HP := hide hp
  have HKE := hide hk
  rw [hS]
  clear hb hp hT hk hS hL hLi hLe hn hni hne hF hFi hFe
  go_enter Tryd.func4, Tryd.ntmps4
  go_wp2_with fail
  refine (unhide HW1 _).mono ?_
  rintro e wn ⟨rfl, hwn⟩
  obtain rfl := hwn.symm
  clear hwn HW1
  go_wp2_with fail
  refine (unhide HSN _).mono ?_
  rintro e wn ⟨rfl, hwn⟩
  obtain rfl := hwn.symm
  clear hwn HSN
  go_wp2_with fail
  refine (unhide HW2 _).mono ?_
  rintro e wn ⟨rfl, hwn⟩
  obtain rfl := hwn.symm
  clear hwn HW2
  go_wp2_with fail
  refine (unhide HW3 _).mono ?_
  rintro e wn ⟨rfl, hwn⟩
  obtain rfl := hwn.symm
  clear hwn HW3
  go_wp2_with fail
  refine (unhide HN1).mono ?_
  rintro e w1 ⟨p, gl, gm, V, rfl, hD1, hp1, hl1, hm1, hV1, hb1⟩
  have HD1 := hide hD1
  have HE1 := hide (And.intro hp1 (And.intro hl1 (And.intro hm1 hV1)))
  have HB1 := hide hb1
  clear HN1 hD1 hp1 hl1 hm1 hV1 hb1
  go_wp2_with fail
  refine (unhide HN2 w1).mono ?_
  rintro e w2 ⟨g, gw, rfl, hS2, hg2, hb2⟩
  obtain ⟨m, hm⟩ : ∃ m, w1.heap.size = m := ⟨_, rfl⟩
  have HG2 : Hid (Gl w w2 S p gl gm V n m g gw F ap (.slice none 0 0) 0) := hide (by
    obtain ⟨q1, q2, q3, q4⟩ := HE1.out
    have hs := HSE.out
    rw [hs] at q1 q2 q3
    have hb1 := HB1.out
    have hbw : Below w.heap.size w w2 := hb1.trans (hb2.mono hb1.size)
    have hs1 := hb1.size
    rw [hs] at hbw hs1
    rw [hm] at hS2 hg2
    have hgb := HGB.out
    refine ⟨Row.nil _ _ _, ?_, HD1.out.below hb2, (HT.out.below hb1).below hb2, hbw, by have := hb2.size; omega, fun x hx => ⟨ft_lo q4 q1 q2 q3 x hx, by rw [← hm]; exact HD1.out.lt hx⟩, hg2, by omega, hgb⟩
    have e : claimAll F n (newW (n - F)) (grC F ap 0) = newW (n - F) := by cases ap <;> rfl
    rw [e]
    exact hS2)
  clear HN2 HD1 HE1 HB1 hS2 hg2 hb2 hm
  go_wp2_with fail
  refine (unhide HNU _).mono ?_
  rintro e wn ⟨rfl, hwn⟩
  obtain rfl := hwn.symm
  clear hwn
  go_wp2_with fail
  refine (unhide HNU _).mono ?_
  rintro e wn ⟨rfl, hwn⟩
  obtain rfl := hwn.symm
  clear hwn
  go_wp2_with fail
  go_loopw [19, 20] (fun lv iv W => ∃ (i : Nat) (la : Option Addr) (lc : Nat), i ≤ k ∧ lv = .slice la i lc ∧ iv = .int .i64 (i : Int) ∧ Hid (Gl w W S p gl gm V n m g gw F ap (.slice la i lc) i)) (fun _ iv _ => k - (intOf iv).toNat)
  case atStart => exact ⟨0, none, 0, by omega, rfl, rfl, HG2⟩
  case round =>
    clear HG2
    obtain ⟨i, la, lc, hik, rfl, rfl, HG⟩ := hrel
    by_cases hlt : i < k
    · obtain ⟨y, hy⟩ : ∃ y, F + i = y := ⟨_, rfl⟩
      have ey : IntKind.i64.wrap ((F : Int) + (i : Int)) = (y : Int) := by rw [IntKind.wrap_i64]; omega
      obtain ⟨w3, hw3⟩ : ∃ w3, wr.alloc (.cells #[.int .i64 (y : Int)] 3) = w3 := ⟨_, rfl⟩
      have hb3 : Below wr.heap.size wr w3 := by rw [← hw3]; exact (Below.refl _ _).alloc (Nat.le_refl _) _
      have hcn : w3.cell? ⟨wr.heap.size, 0, none⟩ = some (.int .i64 (y : Int)) := by rw [← hw3]; exact arr_cell (Arr.new wr [.int .i64 (y : Int)] 3) rfl
      have HG3 := hide (HG.out.below hb3)
      have HLN : Hid ((iV (grK F ap i)).length ≤ 1000000) := hide (by rw [iV_len, grK_len]; omega)
      have HW3 := hide hw3
      have HHY := hide hy
      clear HG hw3 hb3 hy
      cases ap with
      | false =>
        go_wp2_with (at_builtin; rw [HW3.out]; refine wpList_appI6 rfl (.tmp 83) (.tmp 87) rfl rfl HG3.out.row rfl hcn rfl HLN.out HG3.out.sz ?_; intro v4 w4 hr4 hg4
                     obtain ⟨la4, lc4, hv4⟩ := hr4.shape
                     rw [List.length_append, iV_len, grK_len, List.length_singleton] at hv4
                     subst hv4
                     have hu4 : Up (fun b => (Value.slice la i lc).ownBlock = some b) w3 w4 := up_own hg4
                     have HQ4 := hide (And.intro hr4 (HG3.out.upI hu4 (fun b hb => HG3.out.blk hb)))
                     clear hr4 hg4 hu4
                     have HQ : Hid (Gl w w4 S p gl gm V n m g gw F false (.slice la4 (i + 1) lc4) (i + 1)) := hide (HG3.out.next0 HQ4.out.2 HQ4.out.1 HHY.out)
                     clear HG3 HQ4 HLN)
        go_roundw
        case rel => exact ⟨i + 1, la4, lc4, by omega, rfl, by go_num, HQ⟩
        case measure => simp [intOf]; omega
      | true =>
        obtain ⟨z, hz⟩ : ∃ z, F + 2 * i = z := ⟨_, rfl⟩
        have ez1 : IntKind.i64.wrap (2 * (i : Int)) = 2 * (i : Int) := by rw [IntKind.wrap_i64]; omega
        have ez2 : IntKind.i64.wrap ((F : Int) + 2 * (i : Int)) = (z : Int) := by rw [IntKind.wrap_i64]; omega
        obtain ⟨z1, hz1⟩ : ∃ z1, z + 1 = z1 := ⟨_, rfl⟩
        have ez3 : IntKind.i64.wrap ((z : Int) + 1) = (z1 : Int) := by rw [IntKind.wrap_i64]; omega
        have HZ := hide hz
        have HZ1 := hide hz1
        clear hz hz1
        go_wp2_with (at_builtin; rw [HW3.out]; refine wpList_appI6 rfl (.tmp 83) (.tmp 87) rfl rfl HG3.out.row rfl hcn rfl HLN.out HG3.out.sz ?_; intro v4 w4 hr4 hg4
                     obtain ⟨la4, lc4, hv4⟩ := hr4.shape
                     rw [List.length_append, iV_len, grK_len, List.length_singleton] at hv4
                     subst hv4
                     have hu4 : Up (fun b => (Value.slice la i lc).ownBlock = some b) w3 w4 := up_own hg4
                     have HQ4 := hide (And.intro hr4 (HG3.out.upI hu4 (fun b hb => HG3.out.blk hb)))
                     clear hr4 hg4 hu4
                     obtain ⟨gL, lcc, hvl, hB4, hlc4, hcm4⟩ : ∃ gL c, Value.slice la4 (i + 1) lc4 = .slice (some ⟨gL, 0, none⟩) (i + 1) c ∧ S ≤ gL ∧ i + 1 ≤ c ∧ c ≤ 9223372036854775807 := (by
                       rcases HQ4.out.1.2 with ⟨_, h1⟩ | ⟨gL, c, cur, hv, hB, _, q1, q2, _⟩
                       · rw [List.length_append, List.length_singleton] at h1; omega
                       · rw [List.length_append, iV_len, grK_len, List.length_singleton] at hv q1
                         exact ⟨gL, c, hv, hB, by omega, by unfold maxLen at q2; omega⟩)
                     injection hvl with e1 e2 e3
                     subst e1 e3
                     obtain ⟨hc4, hf4, hq4⟩ := HG3.out.next1 HQ4.out.2 HQ4.out.1 hlt hFk HZ.out
                     rw [HZ1.out] at hq4
                     have hii : (i : Int) < ((i + 1 : Nat) : Int) := (by omega)
                     obtain ⟨w5, hw5⟩ : ∃ w5, w4.setCell ⟨gL, i, none⟩ (.int .i64 (z : Int)) = w5 := ⟨_, rfl⟩
                     obtain ⟨hc5, hq5⟩ := hq4 w5 hw5
                     have HW5 := hide hw5
                     have HQQ := hide hq5
                     clear HG3 HQ4 HLN hq4 hq5 hw5 e2)
        rw [HW5.out]
        refine (unhide HQQ).mono ?_
        rintro e w6 ⟨rfl, hG6⟩
        have HG6 := hide hG6
        clear hG6 HQQ hc5 hc4 hf4
        go_wp2
        go_roundw
        case rel => exact ⟨i + 1, _, _, by omega, rfl, by go_num, HG6⟩
        case measure => simp [intOf]; omega
    · obtain rfl : i = k := by omega
      obtain ⟨gL, hvl, hB4, hlc4, hcm4⟩ : ∃ gL, la = some ⟨gL, 0, none⟩ ∧ S ≤ gL ∧ i ≤ lc ∧ lc ≤ 9223372036854775807 := by
        rcases HG.out.row.2 with ⟨_, h1⟩ | ⟨gL, c, cur, hv, hB, _, q1, q2, _⟩
        · rw [iV_len, grK_len] at h1; omega
        · injection hv with e1 e2 e3
          subst e1 e3
          rw [iV_len, grK_len] at q1
          exact ⟨gL, rfl, hB, by omega, by unfold maxLen at q2; omega⟩
      subst hvl
      have HLO := hide (long_calls (n := L) (HB.out.below (by have := HG.out.bel; rw [← HSE.out] at this; exact this)) hL2)
      obtain ⟨ks, hks⟩ : ∃ ks, grK F ap i = ks := ⟨_, rfl⟩
      have hkl : ks.length = i := by rw [← hks, grK_len]
      have hin : ∀ x ∈ ks, 1 ≤ x ∧ x < n ∧ F ≤ x := fun x hx => by
        rw [← hks] at hx
        obtain ⟨j, hj, rfl⟩ := List.mem_map.1 hx
        have := List.mem_range.1 hj
        split <;> omega
      have hnod : ks.Nodup := by
        rw [← hks]
        unfold grK
        refine List.Pairwise.map _ (fun a b hab => ?_) List.nodup_range
        intro e
        split at e <;> exact hab (by omega)
      have HLA : Hid (∀ W gT TX, Gl w W S p gl gm V n m g gw F ap (.slice (some ⟨gL, 0, none⟩) i lc) i → IsB W (.slice (some ⟨gT, 0, none⟩) L L) TX → Calls Tryd.prog 19 #[.slice (some ⟨gT, 0, none⟩) L L, .slice (some ⟨gL, 0, none⟩) i lc] W fun e w' => ∃ v us, e = .returned (.tuple #[v, .agg (refV (shaOf TX) ((ks.getD 0 0 : Nat) : Int) (L : Int)).toArray]) ∧ Ig w' W.heap.size v us ((List.range i).map (sectK TX ks)) ∧ Below W.heap.size W w') := hide (fun W gT TX hG hX => by
        have h1 := hG.row
        rw [hks] at h1
        exact lay6_calls hX hL2 (row_isT h1) hk1 hk9 (fun x hx => by have := hin x hx; omega))
      have HPU : Hid (∀ W gO BO co us rows gT TX, Gm w W S p gl gm V n m g gw F ap gL i lc BO gO co us rows gT L TX → Calls Tryd.prog 20 #[.pointer (some ⟨p, 0, none⟩), .pointer (some ⟨g, 0, none⟩), .slice (some ⟨gT, 0, none⟩) L L] W fun e w' => ∃ g2 c2 V', e = .returned (.tuple #[.agg (refV (shaOf TX) ((ks.getD 0 0 : Nat) : Int) (L : Int)).toArray, .slice (some ⟨g2, 0, none⟩) i c2, .int .i64 0]) ∧ Row w' W.heap.size 3 (.slice (some ⟨g2, 0, none⟩) i c2) (iV ks) ∧ Dk w' p gl gm V' (putAll (zeroD n) TX ks i) ∧ (∀ b, Ft p gl gm V' b → Ft p gl gm V b ∨ W.heap.size ≤ b) ∧ Up (fun b => b = gw ∨ Ft p gl gm V b) W w') := hide (fun W gO BO co us rows gT TX hM => by
        have hG := hM.gl
        have hall := allF_gr hG.sp hFn hFk
        rw [hks] at hall
        have hla : (zeroD n).la.length = n := by show (List.replicate n zsec).length = n; exact List.length_replicate
        have hgw : m ≤ gw := hG.sp.row_lo.1
        obtain ⟨m1, m2, m3⟩ := hG.mg
        refine (put_good hG.dk hG.sp hG.tt hL2 HKE.out ?_ (fun x hx => by rw [hall] at hx; have := hin x hx; rw [hla]; omega) hM.tx (fun _ x hx => ?_) (by omega) (fun x hx => ⟨by have := (hG.lo x hx).1; omega, by have := (hG.lo x hx).2; omega, by have := (hG.lo x hx).2; omega⟩) (by show (0 : Int) ≤ 0; omega) (by show (0 : Int) ≤ 1152921504606840000; omega) (fun x => by show 0 ≤ 68719470000; omega) hall.symm).mono ?_
        · have h1 := congrArg List.length hall
          rw [List.length_take, hkl, freeN_allF] at h1
          omega
        · cases hx
          intro e
          obtain ⟨_, c, m9, q⟩ := hG.sp.row_lo
          have hq : Ty W gT 78 := ⟨c, m9, by rw [show gT = gw from e]; exact q⟩
          exact absurd (hM.tty.one hq) (by decide)
        · rintro e w' ⟨g2, c2, V', rfl, h1, h2, _, h4, h5⟩
          exact ⟨g2, c2, V', rfl, h1, h2, h4, h5⟩)
      have HF1 := hide hF1
      clear hFn hF1
      go_wp2_with fail
      refine (unhide HLO).mono ?_
      rintro e w3 ⟨gT, TX, rfl, hgT, hTX, htT, hb3⟩
      have HG3 := hide (HG.out.below hb3)
      have HLB := hide (unhide HLA w3 gT TX HG3.out hTX)
      have HTX := hide (And.intro hTX htT)
      clear HLO HLA HG hTX htT hb3 hgT
      go_wp2_with fail
      refine (unhide HLB).mono ?_
      rintro e w4 ⟨ov, us, rfl, hIg, hb4⟩
      obtain ⟨gO, co, hov, hBO, hco, hcm⟩ := hIg.shape (by rw [List.length_map, List.length_range]; omega)
      rw [List.length_map, List.length_range] at hov hco
      subst hov
      obtain ⟨BO, hBOe⟩ : ∃ BO, w3.heap.size = BO := ⟨_, rfl⟩
      rw [hBOe] at hIg hBO
      have hF0 : Up (fun _ => False) w3 w4 := Up.of_below hb4
      have HM4 : Hid (Gm w w4 S p gl gm V n m g gw F ap gL i lc BO gO co us ((List.range i).map (sectK TX ks)) gT L TX) := hide ⟨HG3.out.below hb4, hIg, HTX.out.1.below hb4, HTX.out.2.up hF0 (fun h => h)⟩
      have hsl := shaOf_len TX
      obtain ⟨rV, hrV⟩ : ∃ rV, refV (shaOf TX) ((ks.getD 0 0 : Nat) : Int) (L : Int) = rV := ⟨_, rfl⟩
      have hiR : (Tryd.prog.info? 26).map (·.size) = some rV.length := by rw [← hrV]; exact infoRef hsl _ _
      have hzl : zRef.length = rV.length := by rw [← hrV, refV_len hsl]; rfl
      have h1R : ∀ u ∈ rV, u.oneCell' = true := by rw [← hrV]; exact refV_one _ _ _
      have hneq : ∀ W : World, (binOp .neq 26 (.agg rV.toArray) (.agg rV.toArray)).run Tryd.prog W = .ok (.bool false) W := fun W => by rw [← hrV]; exact ref_neq6 hsl W
      have hrg := ref_guardE
      obtain ⟨gW, hgW⟩ : ∃ gW, w4.heap.size = gW := ⟨_, rfl⟩
      obtain ⟨w5, hw5⟩ : ∃ w5, w4.alloc (.cells zRef.toArray 26) = w5 := ⟨_, rfl⟩
      have hA5 : Arr w5 gW 26 zRef := by rw [← hw5, ← hgW]; exact Arr.new w4 _ _
      have HB5 : Hid (Below gW w4 w5) := hide (by rw [← hw5, ← hgW]; exact (Below.refl _ _).alloc (Nat.le_refl _) _)
      have HW5 := hide hw5
      have HGW := hide hgW
      have HRV := hide hrV
      have HPV := hide (fun W h => unhide HPU W gO BO co us ((List.range i).map (sectK TX ks)) gT TX h)
      rw [hrV] at HPV
      rw [hrV]
      clear HG3 HTX HLB HPU hIg hb4 hF0 hw5 hgW hBOe hrV hsl
      go_wp2_with (first
        | (refine wpList_allocRef rfl rfl ?_; rw [HW5.out, HGW.out])
        | (refine wpList_storeArr2 (cs' := rV) rfl (.tmp 23) (.tmp 113) 26 rfl rfl rfl hA5 hiR hzl h1R ?_; intro w6 hA6 hWr6
           have hb46 : Below w4.heap.size w4 w6 := (by rw [HGW.out]; exact hWr6.below _ _ HB5.out (Nat.le_refl _))
           have HM6 := hide (HM4.out.below hb46)
           have HA6 := hide hA6
           have HPW := hide (unhide HPV w6 HM6.out)
           clear hA6 hWr6 hb46))
      refine (unhide HPW).mono ?_
      rintro e w7 ⟨g2, c2, V', rfl, hR7, hD7, hF7, hU7⟩
      obtain ⟨gF, hgF⟩ : ∃ gF, w7.heap.size = gF := ⟨_, rfl⟩
      obtain ⟨w8, hw8⟩ : ∃ w8, w7.alloc (.cells zRef.toArray 26) = w8 := ⟨_, rfl⟩
      have hA8 : Arr w8 gF 26 zRef := by rw [← hw8, ← hgF]; exact Arr.new w7 _ _
      have HB8 : Hid (Below gF w7 w8) := hide (by rw [← hw8, ← hgF]; exact (Below.refl _ _).alloc (Nat.le_refl _) _)
      have HW8 := hide hw8
      have HGF := hide hgF
      obtain ⟨D, hDe⟩ : ∃ D, putAll (zeroD n) TX ks i = D := ⟨_, rfl⟩
      have HDE := hide hDe
      have HX9 : Hid (∀ w9, Below w7.heap.size w7 w9 → Arr w9 gF 26 rV → Gs w w9 S p gl gm V' D gL i ks BO gO co us ((List.range i).map (sectK TX ks)) gF rV gT L TX 0 ∧ Row w9 S 3 (.slice (some ⟨gL, 0, none⟩) i lc) (iV ks) ∧ Row w9 w6.heap.size 3 (.slice (some ⟨g2, 0, none⟩) i c2) (iV ks) ∧ Arr w9 gW 26 rV) := hide (fun w9 hb9 hA9 => by
        rw [hDe] at hD7
        have h1 := HM6.out.put hU7 hD7 hF7 hb9 hA9
        rw [hks] at h1
        have hA7 : Arr w7 gW 26 rV := HA6.out.up hU7 (HM6.out.ne HA6.out.ty (by decide) (by decide) (by decide))
        exact ⟨h1.1, h1.2, owns_up hR7 (Up.of_below (F := fun _ => False) hb9) (fun _ _ h => h), hA7.below hb9⟩)
      clear HPV HPW HM4 HM6 HA6 hA5 HW5 HB5 hR7 hD7 hF7 hU7 hw8 hgF hDe
      go_wp2_with (first
        | (refine wpList_allocRef rfl rfl ?_; rw [HW8.out, HGF.out])
        | (refine wpList_storeArr2 (cs' := rV) rfl (.tmp 24) (.tmp 119) 26 rfl rfl rfl hA8 hiR hzl h1R ?_; intro w9 hA9 hWr9
           have hb79 : Below w7.heap.size w7 w9 := (by rw [HGF.out]; exact hWr9.below _ _ HB8.out (Nat.le_refl _))
           have HQ9 := hide (unhide HX9 w9 hb79 hA9)
           clear hA9 hWr9 hb79))
      refine (unhide HNU _).mono ?_
      rintro e wn ⟨rfl, hwn⟩
      obtain rfl := hwn.symm
      clear hwn HX9 hA8 HB8 HW8
      obtain ⟨hGs9, hr9, hm9, hAW9⟩ := HQ9.out
      have hgR1 : w9.rangeAt gF 0 rV := arr_range (ds := []) (by rw [List.append_nil]; exact hGs9.rf)
      have hgR2 : w9.rangeAt gW 0 rV := arr_range (ds := []) (by rw [List.append_nil]; exact hAW9)
      have HSI : Hid (Calls Tryd.prog 21 #[.slice (some ⟨g2, 0, none⟩) i c2, .slice (some ⟨gL, 0, none⟩) i lc] w9 fun e w' => e = .returned (.bool true) ∧ Below w9.heap.size w9 w') := hide ((sameInts6_calls hm9 hr9).mono (fun e w' h => ⟨by rw [h.1, decide_eq_true rfl], h.2⟩))
      have HGs := hide hGs9
      clear hGs9 hr9 hm9 hAW9 HQ9
      go_wp2_with (first
        | refine wpList_load6On rfl 26 (.tmp 24) rfl gF 0 rfl rV _ hgR1 Tryd.underlying26 rfl hiR ?_
        | refine wpList_load6On rfl 26 (.tmp 23) rfl gW 0 rfl rV _ hgR2 Tryd.underlying26 rfl hiR ?_)
      refine (unhide HSI).mono ?_
      rintro e w10 ⟨rfl, hb10⟩
      have hG10 := HGs.out.below hb10
      have HAC : Hid (Calls Tryd.prog 22 #[.pointer (some ⟨p, 0, none⟩)] w10 fun e w' => e = .returned (.agg #[.int .i64 0, .int .i64 (i : Int), .int .i64 0]) ∧ Below w10.heap.size w10 w') := hide (by
        have hblk := hG10.dk.blk
        have e1 : (D.reads 0).rd = 0 := by rw [← HDE.out]; show (putAll (zeroD n) TX ks i).rd + ((0 : Nat) : Int) = 0; rw [putAll_rd]; rfl
        have e2 : (D.reads 0).wt = (i : Int) := by rw [← HDE.out]; show (putAll (zeroD n) TX ks i).wt = _; rw [putAll_wt]; show (0 : Int) + _ = _; omega
        have e3 : (D.reads 0).fl = 0 := by rw [← HDE.out]; show (putAll (zeroD n) TX ks i).fl = _; rw [putAll_fl]; rfl
        rw [e1, e2, e3] at hblk
        exact acts_calls (arr_cell hblk rfl) (arr_cell hblk rfl) (arr_cell hblk rfl))
      have HG10 := hide hG10
      have hacn := acts_neq6 (i : Int)
      have hacg := acts_guard6
      clear hG10 HGs HSI hb10 hgR1 hgR2 hneq hrg
      go_wp2_with fail
      refine (unhide HAC).mono ?_
      rintro e w11 ⟨rfl, hb11⟩
      have HG11 := hide (HG10.out.below hb11)
      clear HAC HG10 hb11
      go_wp2_with fail
      have hDn : D.la.length = n := by rw [← HDE.out, putAll_la]; exact List.length_replicate
      have hDr : D.rd = 0 := by rw [← HDE.out, putAll_rd]; rfl
      have hrow : ∀ j, j < i → ((List.range i).map (sectK TX ks)).getD j [] = sectK TX ks j := fun j hj => by
        rw [List.getD_eq_getElem?_getD, List.getElem?_map, List.getElem?_range hj]; rfl
      have hnow : ∀ j, j < i → D.now (ks.getD j 0) = sectK TX ks j := fun j hj => by rw [← HDE.out]; exact putAll_in (zeroD n) TX hnod (by omega) hj
      have HRD : Hid (∀ W j, Gs w W S p gl gm V' D gL i ks BO gO co us ((List.range i).map (sectK TX ks)) gF rV gT L TX j → j < i → Calls Tryd.prog 23 #[.pointer (some ⟨p, 0, none⟩), .int .i64 ((ks.getD j 0 : Nat) : Int)] W fun e w' => ∃ gx, e = .returned (.tuple #[.slice (some ⟨gx, 0, none⟩) 512 512, .int .i64 0]) ∧ IsB w' (.slice (some ⟨gx, 0, none⟩) 512 512) (sectK TX ks j) ∧ Gs w w' S p gl gm V' D gL i ks BO gO co us ((List.range i).map (sectK TX ks)) gF rV gT L TX (j + 1)) := hide (fun W j hG hj => by
        have hx := hin _ (getD_mem (ks := ks) (i := j) (by omega))
        have hin2 : ks.getD j 0 < (D.reads j).la.length := by show ks.getD j 0 < D.la.length; omega
        refine (read_calls hG.dk hin2 (by show 0 ≤ D.rd + (j : Int); omega) (by show D.rd + (j : Int) ≤ 1152921504606846976; omega)).mono ?_
        rintro e w' ⟨gx, rfl, _, hA, hD, hgr⟩
        rw [reads_succ] at hD
        have hn2 : (D.reads j).now (ks.getD j 0) = sectK TX ks j := (show D.now (ks.getD j 0) = _ from hnow j hj)
        rw [hn2] at hA
        exact ⟨gx, rfl, isB_sector hA (sectK_is hG.tx.mem ks j), hG.up (Up.of_grown hgr (fun _ e => (Option.some.inj e).symm)) hD⟩)
      have HROW := hide hrow
      have HNOW := hide hnow
      have HIN := hide hin
      have HDN := hide hDn
      have HDR := hide hDr
      have HNOD := hide hnod
      have HKL := hide hkl
      have HKS := hide hks
      clear hrow hnow hin hDn hDr hnod hkl hks hacn hacg hzl h1R hk3 hnm ek3 enm hk2 ek2 hFk
      go_loopw [27] (fun jv W => ∃ (j : Nat), j ≤ i ∧ jv = .int .i64 (j : Int) ∧ Hid (Gs w W S p gl gm V' D gL i ks BO gO co us ((List.range i).map (sectK TX ks)) gF rV gT L TX j)) (fun jv _ => i - (intOf jv).toNat)
      case atStart => exact ⟨0, by omega, rfl, HG11⟩
      case round =>
        clear HG11
        obtain ⟨j, hji, rfl, HJ⟩ := hrel
        by_cases hjl : j < i
        · have hcl := HJ.out.lc j hjl
          have HRJ := hide (unhide HRD wr j HJ.out hjl)
          obtain ⟨y, hy⟩ : ∃ y, ks.getD j 0 = y := ⟨_, rfl⟩
          rw [hy] at hcl HRJ
          have hjI : (j : Int) < (i : Int) := by omega
          clear hy HRD HJ
          go_wp2_with fail
          refine (unhide HRJ).mono ?_
          rintro e w12 ⟨gx, rfl, hX, hG12⟩
          obtain ⟨ra, rc, hcr, hIr, _⟩ := hG12.ig.at (j := j) (by rw [List.length_map, List.length_range]; exact hjl)
          rw [unhide HROW j hjl] at hIr
          have HSM : Hid (Calls Tryd.prog 11 #[.slice (some ⟨gx, 0, none⟩) 512 512, .slice ra 512 rc] w12 fun e w' => e = .returned (.bool true) ∧ w' = w12) := hide ((same6_calls hX hIr).mono (fun e w' h => ⟨by rw [h.1, decide_eq_true rfl], h.2⟩))
          have HG12 := hide hG12
          clear HRJ hX hG12 hIr
          go_wp2_with fail
          refine (unhide HNU _).mono ?_
          rintro e wn ⟨rfl, hwn⟩
          obtain rfl := hwn.symm
          clear hwn
          go_wp2_with fail
          refine (unhide HSM).mono ?_
          rintro e wn ⟨rfl, hwn⟩
          obtain rfl := hwn.symm
          clear hwn HSM
          go_wp2
          go_roundw
          case rel => exact ⟨j + 1, by omega, by go_num, HG12⟩
          case measure => simp [intOf]; omega
        · obtain rfl : i = j := by omega
          have HPL : Hid (pn ≤ pc ∧ pc ≤ 9223372036854775807 ∧ ∀ j, j < pn → ∃ pb po x, pa = some ⟨pb, po, none⟩ ∧ ∀ W, Below S w W → W.cell? ⟨pb, po + j, none⟩ = some (.int .i64 x)) := hide (by
            obtain ⟨a0, c0, hv, h1, h2, h3⟩ := HP.out.val
            injection hv with e1 e2 e3
            subst e1 e3
            refine ⟨by omega, h2, fun j hj => ?_⟩
            obtain ⟨b9, o9, e4, h4⟩ := h3 (by omega)
            refine ⟨b9, o9, ps.getD j 0, e4, fun W hW => ?_⟩
            rw [← HSE.out] at hW
            exact bkeptC hW (h4 j (by omega)))
          obtain ⟨hpc1, hpc2, hpl⟩ := HPL.out
          have HPQ := hide hpl
          clear HRD HPL hpl HB HP HT HGB
          go_wp2_with fail
          go_loopw [30] (fun jv W => ∃ (j : Nat), j ≤ 6 ∧ j ≤ pn ∧ jv = .int .i64 (j : Int) ∧ Hid (Gs w W S p gl gm V' D gL i ks BO gO co us ((List.range i).map (sectK TX ks)) gF rV gT L TX i)) (fun jv _ => 6 - (intOf jv).toNat)
          case atStart => exact ⟨0, by omega, by omega, rfl, HJ⟩
          case round =>
            clear HJ
            obtain ⟨j, hj6, hjp, rfl, HJ⟩ := hrel
            by_cases hc1 : j < pn
            · have hc1I : (j : Int) < (pn : Int) := by omega
              by_cases hc2 : j < 6
              · have hc2I : (j : Int) < 6 := by omega
                obtain ⟨pb, po, x, hpa, hcx⟩ := unhide HPQ j hc1
                subst hpa
                have hcxw := hcx wr HJ.out.bel
                obtain ⟨km, hkm⟩ : ∃ km, i - 1 = km := ⟨_, rfl⟩
                have ekm : IntKind.i64.wrap ((i : Int) - 1) = (km : Int) := by rw [IntKind.wrap_i64]; omega
                obtain ⟨P, hPe⟩ : ∃ P : Nat, (wholeI x 0 (km : Int)).toNat = P := ⟨_, rfl⟩
                have hPi := wholeI_in x (show (0 : Int) ≤ (km : Int) by omega)
                have hPv : wholeI x 0 (km : Int) = (P : Int) := by omega
                have hPl : P < i := by omega
                have HWP : Hid (∀ W, Calls Tryd.prog 13 #[.int .i64 x, .int .i64 0, .int .i64 (km : Int)] W fun e w' => e = .returned (.int .i64 (P : Int)) ∧ w' = W) := hide (fun W => by rw [← hPv]; exact whole6_calls x (by omega) (by omega) (by omega) W)
                obtain ⟨P1, hP1⟩ : ∃ P1, P + 1 = P1 := ⟨_, rfl⟩
                have eP1 : IntKind.i64.wrap ((P : Int) + 1) = (P1 : Int) := by rw [IntKind.wrap_i64]; omega
                obtain ⟨Pa, hPa⟩ : ∃ Pa, P + 256 = Pa := ⟨_, rfl⟩
                have ePa : IntKind.i64.wrap ((P : Int) + 256) = (Pa : Int) := by rw [IntKind.wrap_i64]; omega
                obtain ⟨ra, rc, hcr, hIr, _⟩ := HJ.out.ig.at (j := P) (by rw [List.length_map, List.length_range]; exact hPl)
                rw [unhide HROW P hPl] at hIr
                have hsl := shaOf_len TX
                have HSO : Hid (∀ W (pl nx' : Int) (bb : Bool), Below wr.heap.size wr W → decide (SoundP (sectK TX ks P) (shaOf TX) (L : Int) pl nx') = bb → Calls Tryd.prog 9 #[.slice ra 512 rc, .agg rV.toArray, .int .i64 pl, .int .i64 nx'] W fun e w' => e = .returned (.bool bb) ∧ Below W.heap.size W w') := hide (fun W pl nx' bb hW hd => by
                  rw [← hd, ← HRV.out]
                  exact sound_calls (hIr.below hW) hsl (sha_bytes TX) (HJ.out.tt.below hW).tab)
                have HSS : Hid (∀ W, Below wr.heap.size wr W → W.cell? ⟨gO, P, none⟩ = some (.slice ra 512 rc) ∧ W.rangeAt gF 0 rV) := hide (fun W hW => ⟨bkeptC hW hcr, arr_range (ds := []) (by rw [List.append_nil]; exact HJ.out.rf.below hW)⟩)
                have hxl : TX.length = L := HJ.out.tx.lenEq.symm
                have hkss : ∀ x ∈ ks, 1 ≤ x ∧ x < 65536 := fun x hx => by have := HIN.out x hx; omega
                have hsnd : SoundP (sectK TX ks P) (shaOf TX) (L : Int) (P : Int) (nxK ks P) := by
                  have := sectK_sound (bs := TX) (ks := ks) (by omega) (by rw [HKL.out, hxl]; exact HKE.out.symm) hkss (j := P) (by rw [HKL.out]; exact hPl)
                  rw [hxl] at this
                  exact this
                have HON : Hid (∀ pl nx' : Int, pl ≠ (P : Int) ∨ nx' ≠ nxK ks P → decide (SoundP (sectK TX ks P) (shaOf TX) (L : Int) pl nx') = false) := hide (fun pl nx' h => decide_eq_false fun hs => by
                  obtain ⟨e1, e2⟩ := sect_only (fun x hx => (hkss x hx).2) (by omega) hs
                  rcases h with h | h
                  · exact h e1
                  · exact h e2)
                have HSN : Hid (decide (SoundP (sectK TX ks P) (shaOf TX) (L : Int) (P : Int) (nxK ks P)) = true) := hide (decide_eq_true hsnd)
                have HD2 : Hid (decide (SoundP (sectK TX ks P) (shaOf TX) (L : Int) (Pa : Int) (nxK ks P)) = false) := hide (unhide HON _ _ (Or.inl (by omega)))
                obtain ⟨Ps, hPs⟩ : ∃ Ps, P - 256 = Ps := ⟨_, rfl⟩
                have HPS := hide hPs
                have HP1 := hide hP1
                have HKM := hide hkm
                clear hsnd hkss hxl hsl hIr hPe hPi hPv hcx hP1 hPa hPs hkm HPQ
                by_cases hl1 : P1 < i
                · have hl1I : (P1 : Int) < (i : Int) := by omega
                  obtain ⟨nx, hnx⟩ : ∃ nx : Nat, ks.getD P1 0 = nx := ⟨_, rfl⟩
                  have hcl : wr.cell? ⟨gL, P1, none⟩ = some (.int .i64 (nx : Int)) := by rw [← hnx]; exact HJ.out.lc P1 hl1
                  have hnk : nxK ks P = (nx : Int) := by unfold nxK; rw [HP1.out, hnx]
                  have hnx6 : nx < 65536 := by
                    have := HIN.out nx (by rw [← hnx]; exact getD_mem (by rw [HKL.out]; exact hl1))
                    omega
                  obtain ⟨y, hxor, hyb, hyn⟩ := xor256 (nx : Int)
                  obtain ⟨nb, hnb⟩ : ∃ nb, nx + 65536 = nb := ⟨_, rfl⟩
                  have enb : IntKind.i64.wrap ((nx : Int) + 65536) = (nb : Int) := by rw [IntKind.wrap_i64]; omega
                  have HD3 : Hid (decide (SoundP (sectK TX ks P) (shaOf TX) (L : Int) (P : Int) y) = false) := hide (unhide HON _ _ (Or.inr (by rw [hnk]; exact hyn)))
                  have HD4 : Hid (decide (SoundP (sectK TX ks P) (shaOf TX) (L : Int) (P : Int) (nb : Int)) = false) := hide (unhide HON _ _ (Or.inr (by rw [hnk]; omega)))
                  have HD5 : Hid (256 ≤ P → decide (SoundP (sectK TX ks P) (shaOf TX) (L : Int) (Ps : Int) (nx : Int)) = false) := hide (fun hge => unhide HON _ _ (Or.inl (by have := HPS.out; omega)))
                  rw [hnk] at HSN HD2
                  have HD1 := HSN
                  clear hnx hnk hnb HON hyb hyn HSN
                  by_cases hge : 256 ≤ P
                  · have hgeI : (256 : Int) ≤ (P : Int) := by omega
                    have ePs : IntKind.i64.wrap ((P : Int) - 256) = (Ps : Int) := by rw [IntKind.wrap_i64]; have := HPS.out; omega
                    replace HD5 := hide (HD5.out hge)
                    go_wp2_with fail
                    refine (unhide HWP _).mono ?_
                    rintro e wn ⟨rfl, hwn⟩
                    obtain rfl := hwn.symm
                    clear hwn HWP
                    go_wp2_with fail
                    have hx0 : Below wr.heap.size wr wr.drew := (Below.refl _ _).drew
                    refine wp_region_held_drew (S := fun W => W.cell? ⟨gO, P, none⟩ = some (.slice ra 512 rc) ∧ W.rangeAt gF 0 rV) (by kernel_rfl) (unhide HSS _ hx0) (fun hHeld => ?_)
                    refine wpAnyH_take (i := 0) (v := .slice (some ⟨gO, 0, none⟩) i co) rfl (by kernel_rfl) (by kernel_rfl) (by kernel_rfl) (fun _ _ _ h => h) (Or.inl ⟨by rfl, fun w hSw => by obtain ⟨hS1, hS2⟩ := hSw; go_simp⟩) (by assumption) ?_
                    simp only [List.getElem_toArray, List.getElem_cons_zero, Act.put, List.setIfInBounds_toArray, List.set_cons_zero, List.set_cons_succ]
                    refine wpAnyH_take (i := 1) (v := .int .i64 (P : Int)) rfl (by kernel_rfl) (by kernel_rfl) (by kernel_rfl) (fun _ _ _ h => h) (Or.inl ⟨by rfl, fun w hSw => by obtain ⟨hS1, hS2⟩ := hSw; go_simp⟩) (by assumption) ?_
                    simp only [List.getElem_toArray, List.getElem_cons_succ, List.getElem_cons_zero, Act.put, List.setIfInBounds_toArray, List.set_cons_zero, List.set_cons_succ]
                    refine wpAnyH_take (i := 2) (v := .pointer (some ⟨gO, P, none⟩)) rfl (by kernel_rfl) (by kernel_rfl) (by kernel_rfl) (fun _ _ _ h => h) (Or.inl ⟨by rfl, fun w hSw => by obtain ⟨hS1, hS2⟩ := hSw; go_simp⟩) (by assumption) ?_
                    simp only [List.getElem_toArray, List.getElem_cons_succ, List.getElem_cons_zero, Act.put, List.setIfInBounds_toArray, List.set_cons_zero, List.set_cons_succ]
                    refine wpAnyH_take (i := 3) (v := .slice (ra) 512 rc) rfl (by kernel_rfl) (by kernel_rfl) (by kernel_rfl) (fun _ _ _ h => h) (Or.inl ⟨by rfl, fun w hSw => by obtain ⟨hS1, hS2⟩ := hSw; go_simp⟩) (by assumption) ?_
                    simp only [List.getElem_toArray, List.getElem_cons_succ, List.getElem_cons_zero, Act.put, List.setIfInBounds_toArray, List.set_cons_zero, List.set_cons_succ]
                    refine wpAnyH_take (i := 4) (v := .agg (rV).toArray) rfl (by kernel_rfl) (by kernel_rfl) (by kernel_rfl) (fun _ _ _ h => h) (yieldsIf_load_mid (by rfl) _ _ rfl _ _ rfl _ _ (fun w hSw => hSw.2) Tryd.underlying26 rfl hiR) (by assumption) ?_
                    simp only [List.getElem_toArray, List.getElem_cons_succ, List.getElem_cons_zero, Act.put, List.setIfInBounds_toArray, List.set_cons_zero, List.set_cons_succ]
                    refine wpAnyH_take (i := 5) (v := .int .i64 (P : Int)) rfl (by kernel_rfl) (by kernel_rfl) (by kernel_rfl) (fun _ _ _ h => h) (Or.inl ⟨by rfl, fun w hSw => by obtain ⟨hS1, hS2⟩ := hSw; go_simp⟩) (by assumption) ?_
                    simp only [List.getElem_toArray, List.getElem_cons_succ, List.getElem_cons_zero, Act.put, List.setIfInBounds_toArray, List.set_cons_zero, List.set_cons_succ]
                    refine wpAnyH_take (i := 6) (v := .int .i64 (nx : Int)) rfl (by kernel_rfl) (by kernel_rfl) (by kernel_rfl) (fun _ _ _ h => h) (Or.inl ⟨by rfl, fun w hSw => by obtain ⟨hS1, hS2⟩ := hSw; go_simp⟩) (by assumption) ?_
                    simp only [List.getElem_toArray, List.getElem_cons_succ, List.getElem_cons_zero, Act.put, List.setIfInBounds_toArray, List.set_cons_zero, List.set_cons_succ]
                    refine wpAnyH_ready (rs := [7]) (by kernel_rfl) (by simp) (AllReadyH.cons rfl (fun K hK => ?_) AllReadyH.nil)
                    refine step_call4C (by rfl) 9 sound_enter6 (.tmp 198) (.tmp 199) (.tmp 200) (.tmp 201) _ rfl rfl rfl rfl rfl (unhide HSO _ _ _ _ hx0 HD1.out) ?_
                    rintro e wa ⟨rfl, hbwa⟩
                    have hx1 : Below wr.heap.size wr wa := hx0.trans (hbwa.mono hx0.size)
                    refine ⟨_, rfl, ?_⟩
                    refine hK.out _ _ (unhide HSS _ hx1) (fun hJ1 => ?_)
                    clear hK K
                    simp only [List.getElem_toArray, List.getElem_cons_succ, List.getElem_cons_zero, Act.put, List.setIfInBounds_toArray, List.set_cons_zero, List.set_cons_succ]
                    refine wpAnyH_take (i := 8) (v := .bool false) rfl (by kernel_rfl) (by kernel_rfl) (by kernel_rfl) (fun _ _ _ h => h) (Or.inl ⟨by rfl, fun w hSw => by obtain ⟨hS1, hS2⟩ := hSw; go_simp⟩) (by assumption) ?_
                    simp only [List.getElem_toArray, List.getElem_cons_succ, List.getElem_cons_zero, Act.put, List.setIfInBounds_toArray, List.set_cons_zero, List.set_cons_succ]
                    refine wpAnyH_take (i := 9) (v := .bool false) rfl (by kernel_rfl) (by kernel_rfl) (by kernel_rfl) (fun _ _ _ h => h) (Or.inl ⟨by rfl, fun w hSw => by obtain ⟨hS1, hS2⟩ := hSw; go_simp⟩) (by assumption) ?_
                    simp only [List.getElem_toArray, List.getElem_cons_succ, List.getElem_cons_zero, Act.put, List.setIfInBounds_toArray, List.set_cons_zero, List.set_cons_succ]
                    refine wpAnyH_take (i := 10) (v := .slice (some ⟨gO, 0, none⟩) i co) rfl (by kernel_rfl) (by kernel_rfl) (by kernel_rfl) (fun _ _ _ h => h) (Or.inl ⟨by rfl, fun w hSw => by obtain ⟨hS1, hS2⟩ := hSw; go_simp⟩) (by assumption) ?_
                    simp only [List.getElem_toArray, List.getElem_cons_succ, List.getElem_cons_zero, Act.put, List.setIfInBounds_toArray, List.set_cons_zero, List.set_cons_succ]
                    refine wpAnyH_take (i := 11) (v := .int .i64 (P : Int)) rfl (by kernel_rfl) (by kernel_rfl) (by kernel_rfl) (fun _ _ _ h => h) (Or.inl ⟨by rfl, fun w hSw => by obtain ⟨hS1, hS2⟩ := hSw; go_simp⟩) (by assumption) ?_
                    simp only [List.getElem_toArray, List.getElem_cons_succ, List.getElem_cons_zero, Act.put, List.setIfInBounds_toArray, List.set_cons_zero, List.set_cons_succ]
                    refine wpAnyH_take (i := 12) (v := .pointer (some ⟨gO, P, none⟩)) rfl (by kernel_rfl) (by kernel_rfl) (by kernel_rfl) (fun _ _ _ h => h) (Or.inl ⟨by rfl, fun w hSw => by obtain ⟨hS1, hS2⟩ := hSw; go_simp⟩) (by assumption) ?_
                    simp only [List.getElem_toArray, List.getElem_cons_succ, List.getElem_cons_zero, Act.put, List.setIfInBounds_toArray, List.set_cons_zero, List.set_cons_succ]
                    refine wpAnyH_take (i := 13) (v := .slice (ra) 512 rc) rfl (by kernel_rfl) (by kernel_rfl) (by kernel_rfl) (fun _ _ _ h => h) (Or.inl ⟨by rfl, fun w hSw => by obtain ⟨hS1, hS2⟩ := hSw; go_simp⟩) (by assumption) ?_
                    simp only [List.getElem_toArray, List.getElem_cons_succ, List.getElem_cons_zero, Act.put, List.setIfInBounds_toArray, List.set_cons_zero, List.set_cons_succ]
                    refine wpAnyH_take (i := 14) (v := .agg (rV).toArray) rfl (by kernel_rfl) (by kernel_rfl) (by kernel_rfl) (fun _ _ _ h => h) (yieldsIf_load_mid (by rfl) _ _ rfl _ _ rfl _ _ (fun w hSw => hSw.2) Tryd.underlying26 rfl hiR) (by assumption) ?_
                    simp only [List.getElem_toArray, List.getElem_cons_succ, List.getElem_cons_zero, Act.put, List.setIfInBounds_toArray, List.set_cons_zero, List.set_cons_succ]
                    refine wpAnyH_take (i := 15) (v := .int .i64 (P : Int)) rfl (by kernel_rfl) (by kernel_rfl) (by kernel_rfl) (fun _ _ _ h => h) (Or.inl ⟨by rfl, fun w hSw => by obtain ⟨hS1, hS2⟩ := hSw; go_simp⟩) (by assumption) ?_
                    simp only [List.getElem_toArray, List.getElem_cons_succ, List.getElem_cons_zero, Act.put, List.setIfInBounds_toArray, List.set_cons_zero, List.set_cons_succ]
                    refine wpAnyH_take (i := 16) (v := .int .i64 (Pa : Int)) rfl (by kernel_rfl) (by kernel_rfl) (by kernel_rfl) (fun _ _ _ h => h) (Or.inl ⟨by rfl, fun w hSw => by obtain ⟨hS1, hS2⟩ := hSw; go_simp⟩) (by assumption) ?_
                    simp only [List.getElem_toArray, List.getElem_cons_succ, List.getElem_cons_zero, Act.put, List.setIfInBounds_toArray, List.set_cons_zero, List.set_cons_succ]
                    refine wpAnyH_take (i := 17) (v := .int .i64 (nx : Int)) rfl (by kernel_rfl) (by kernel_rfl) (by kernel_rfl) (fun _ _ _ h => h) (Or.inl ⟨by rfl, fun w hSw => by obtain ⟨hS1, hS2⟩ := hSw; go_simp⟩) (by assumption) ?_
                    simp only [List.getElem_toArray, List.getElem_cons_succ, List.getElem_cons_zero, Act.put, List.setIfInBounds_toArray, List.set_cons_zero, List.set_cons_succ]
                    refine wpAnyH_ready (rs := [18]) (by kernel_rfl) (by simp) (AllReadyH.cons rfl (fun K hK => ?_) AllReadyH.nil)
                    refine step_call4GC (by rfl) 9 sound_enter6 (.tmp 208) (.tmp 209) (.tmp 211) (.tmp 212) _ rfl rfl rfl rfl rfl (unhide HSO _ _ _ _ hx1 HD2.out) ?_
                    rintro e wb ⟨rfl, hbwb⟩
                    have hx2 : Below wr.heap.size wr wb := hx1.trans (hbwb.mono hx1.size)
                    refine ⟨_, rfl, ?_⟩
                    refine hK.out _ _ (unhide HSS _ hx2) (fun hJ2 => ?_)
                    clear hK K
                    simp only [List.getElem_toArray, List.getElem_cons_succ, List.getElem_cons_zero, Act.put, List.setIfInBounds_toArray, List.set_cons_zero, List.set_cons_succ]
                    refine wpAnyH_take (i := 19) (v := .bool false) rfl (by kernel_rfl) (by kernel_rfl) (by kernel_rfl) (fun _ _ _ h => h) (Or.inl ⟨by rfl, fun w hSw => by obtain ⟨hS1, hS2⟩ := hSw; go_simp⟩) (by assumption) ?_
                    simp only [List.getElem_toArray, List.getElem_cons_succ, List.getElem_cons_zero, Act.put, List.setIfInBounds_toArray, List.set_cons_zero, List.set_cons_succ]
                    refine wpAnyH_take (i := 20) (v := .bool false) rfl (by kernel_rfl) (by kernel_rfl) (by kernel_rfl) (fun _ _ _ h => h) (Or.inl ⟨by rfl, fun w hSw => by obtain ⟨hS1, hS2⟩ := hSw; go_simp⟩) (by assumption) ?_
                    simp only [List.getElem_toArray, List.getElem_cons_succ, List.getElem_cons_zero, Act.put, List.setIfInBounds_toArray, List.set_cons_zero, List.set_cons_succ]
                    refine wpAnyH_take (i := 21) (v := .slice (some ⟨gO, 0, none⟩) i co) rfl (by kernel_rfl) (by kernel_rfl) (by kernel_rfl) (fun _ _ _ h => h) (Or.inl ⟨by rfl, fun w hSw => by obtain ⟨hS1, hS2⟩ := hSw; go_simp⟩) (by assumption) ?_
                    simp only [List.getElem_toArray, List.getElem_cons_succ, List.getElem_cons_zero, Act.put, List.setIfInBounds_toArray, List.set_cons_zero, List.set_cons_succ]
                    refine wpAnyH_take (i := 22) (v := .int .i64 (P : Int)) rfl (by kernel_rfl) (by kernel_rfl) (by kernel_rfl) (fun _ _ _ h => h) (Or.inl ⟨by rfl, fun w hSw => by obtain ⟨hS1, hS2⟩ := hSw; go_simp⟩) (by assumption) ?_
                    simp only [List.getElem_toArray, List.getElem_cons_succ, List.getElem_cons_zero, Act.put, List.setIfInBounds_toArray, List.set_cons_zero, List.set_cons_succ]
                    refine wpAnyH_take (i := 23) (v := .pointer (some ⟨gO, P, none⟩)) rfl (by kernel_rfl) (by kernel_rfl) (by kernel_rfl) (fun _ _ _ h => h) (Or.inl ⟨by rfl, fun w hSw => by obtain ⟨hS1, hS2⟩ := hSw; go_simp⟩) (by assumption) ?_
                    simp only [List.getElem_toArray, List.getElem_cons_succ, List.getElem_cons_zero, Act.put, List.setIfInBounds_toArray, List.set_cons_zero, List.set_cons_succ]
                    refine wpAnyH_take (i := 24) (v := .slice (ra) 512 rc) rfl (by kernel_rfl) (by kernel_rfl) (by kernel_rfl) (fun _ _ _ h => h) (Or.inl ⟨by rfl, fun w hSw => by obtain ⟨hS1, hS2⟩ := hSw; go_simp⟩) (by assumption) ?_
                    simp only [List.getElem_toArray, List.getElem_cons_succ, List.getElem_cons_zero, Act.put, List.setIfInBounds_toArray, List.set_cons_zero, List.set_cons_succ]
                    refine wpAnyH_take (i := 25) (v := .agg (rV).toArray) rfl (by kernel_rfl) (by kernel_rfl) (by kernel_rfl) (fun _ _ _ h => h) (yieldsIf_load_mid (by rfl) _ _ rfl _ _ rfl _ _ (fun w hSw => hSw.2) Tryd.underlying26 rfl hiR) (by assumption) ?_
                    simp only [List.getElem_toArray, List.getElem_cons_succ, List.getElem_cons_zero, Act.put, List.setIfInBounds_toArray, List.set_cons_zero, List.set_cons_succ]
                    refine wpAnyH_take (i := 26) (v := .int .i64 (P : Int)) rfl (by kernel_rfl) (by kernel_rfl) (by kernel_rfl) (fun _ _ _ h => h) (Or.inl ⟨by rfl, fun w hSw => by obtain ⟨hS1, hS2⟩ := hSw; go_simp⟩) (by assumption) ?_
                    simp only [List.getElem_toArray, List.getElem_cons_succ, List.getElem_cons_zero, Act.put, List.setIfInBounds_toArray, List.set_cons_zero, List.set_cons_succ]
                    refine wpAnyH_take (i := 27) (v := .int .i64 (nx : Int)) rfl (by kernel_rfl) (by kernel_rfl) (by kernel_rfl) (fun _ _ _ h => h) (Or.inl ⟨by rfl, fun w hSw => by obtain ⟨hS1, hS2⟩ := hSw; go_simp⟩) (by assumption) ?_
                    simp only [List.getElem_toArray, List.getElem_cons_succ, List.getElem_cons_zero, Act.put, List.setIfInBounds_toArray, List.set_cons_zero, List.set_cons_succ]
                    refine wpAnyH_take (i := 28) (v := .int .i64 y) rfl (by kernel_rfl) (by kernel_rfl) (by kernel_rfl) (fun _ _ _ h => h) (Or.inl ⟨by rfl, fun w hSw => by obtain ⟨hS1, hS2⟩ := hSw; go_simp⟩) (by assumption) ?_
                    simp only [List.getElem_toArray, List.getElem_cons_succ, List.getElem_cons_zero, Act.put, List.setIfInBounds_toArray, List.set_cons_zero, List.set_cons_succ]
                    refine wpAnyH_ready (rs := [29]) (by kernel_rfl) (by simp) (AllReadyH.cons rfl (fun K hK => ?_) AllReadyH.nil)
                    refine step_call4GC (by rfl) 9 sound_enter6 (.tmp 219) (.tmp 220) (.tmp 221) (.tmp 223) _ rfl rfl rfl rfl rfl (unhide HSO _ _ _ _ hx2 HD3.out) ?_
                    rintro e wc ⟨rfl, hbwc⟩
                    have hx3 : Below wr.heap.size wr wc := hx2.trans (hbwc.mono hx2.size)
                    refine ⟨_, rfl, ?_⟩
                    refine hK.out _ _ (unhide HSS _ hx3) (fun hJ3 => ?_)
                    clear hK K
                    simp only [List.getElem_toArray, List.getElem_cons_succ, List.getElem_cons_zero, Act.put, List.setIfInBounds_toArray, List.set_cons_zero, List.set_cons_succ]
                    refine wpAnyH_take (i := 30) (v := .bool false) rfl (by kernel_rfl) (by kernel_rfl) (by kernel_rfl) (fun _ _ _ h => h) (Or.inl ⟨by rfl, fun w hSw => by obtain ⟨hS1, hS2⟩ := hSw; go_simp⟩) (by assumption) ?_
                    simp only [List.getElem_toArray, List.getElem_cons_succ, List.getElem_cons_zero, Act.put, List.setIfInBounds_toArray, List.set_cons_zero, List.set_cons_succ]
                    refine wpAnyH_take (i := 31) (v := .bool false) rfl (by kernel_rfl) (by kernel_rfl) (by kernel_rfl) (fun _ _ _ h => h) (Or.inl ⟨by rfl, fun w hSw => by obtain ⟨hS1, hS2⟩ := hSw; go_simp⟩) (by assumption) ?_
                    simp only [List.getElem_toArray, List.getElem_cons_succ, List.getElem_cons_zero, Act.put, List.setIfInBounds_toArray, List.set_cons_zero, List.set_cons_succ]
                    refine wpAnyH_take (i := 32) (v := .slice (some ⟨gO, 0, none⟩) i co) rfl (by kernel_rfl) (by kernel_rfl) (by kernel_rfl) (fun _ _ _ h => h) (Or.inl ⟨by rfl, fun w hSw => by obtain ⟨hS1, hS2⟩ := hSw; go_simp⟩) (by assumption) ?_
                    simp only [List.getElem_toArray, List.getElem_cons_succ, List.getElem_cons_zero, Act.put, List.setIfInBounds_toArray, List.set_cons_zero, List.set_cons_succ]
                    refine wpAnyH_take (i := 33) (v := .int .i64 (P : Int)) rfl (by kernel_rfl) (by kernel_rfl) (by kernel_rfl) (fun _ _ _ h => h) (Or.inl ⟨by rfl, fun w hSw => by obtain ⟨hS1, hS2⟩ := hSw; go_simp⟩) (by assumption) ?_
                    simp only [List.getElem_toArray, List.getElem_cons_succ, List.getElem_cons_zero, Act.put, List.setIfInBounds_toArray, List.set_cons_zero, List.set_cons_succ]
                    refine wpAnyH_take (i := 34) (v := .pointer (some ⟨gO, P, none⟩)) rfl (by kernel_rfl) (by kernel_rfl) (by kernel_rfl) (fun _ _ _ h => h) (Or.inl ⟨by rfl, fun w hSw => by obtain ⟨hS1, hS2⟩ := hSw; go_simp⟩) (by assumption) ?_
                    simp only [List.getElem_toArray, List.getElem_cons_succ, List.getElem_cons_zero, Act.put, List.setIfInBounds_toArray, List.set_cons_zero, List.set_cons_succ]
                    refine wpAnyH_take (i := 35) (v := .slice (ra) 512 rc) rfl (by kernel_rfl) (by kernel_rfl) (by kernel_rfl) (fun _ _ _ h => h) (Or.inl ⟨by rfl, fun w hSw => by obtain ⟨hS1, hS2⟩ := hSw; go_simp⟩) (by assumption) ?_
                    simp only [List.getElem_toArray, List.getElem_cons_succ, List.getElem_cons_zero, Act.put, List.setIfInBounds_toArray, List.set_cons_zero, List.set_cons_succ]
                    refine wpAnyH_take (i := 36) (v := .agg (rV).toArray) rfl (by kernel_rfl) (by kernel_rfl) (by kernel_rfl) (fun _ _ _ h => h) (yieldsIf_load_mid (by rfl) _ _ rfl _ _ rfl _ _ (fun w hSw => hSw.2) Tryd.underlying26 rfl hiR) (by assumption) ?_
                    simp only [List.getElem_toArray, List.getElem_cons_succ, List.getElem_cons_zero, Act.put, List.setIfInBounds_toArray, List.set_cons_zero, List.set_cons_succ]
                    refine wpAnyH_take (i := 37) (v := .int .i64 (P : Int)) rfl (by kernel_rfl) (by kernel_rfl) (by kernel_rfl) (fun _ _ _ h => h) (Or.inl ⟨by rfl, fun w hSw => by obtain ⟨hS1, hS2⟩ := hSw; go_simp⟩) (by assumption) ?_
                    simp only [List.getElem_toArray, List.getElem_cons_succ, List.getElem_cons_zero, Act.put, List.setIfInBounds_toArray, List.set_cons_zero, List.set_cons_succ]
                    refine wpAnyH_take (i := 38) (v := .int .i64 (nx : Int)) rfl (by kernel_rfl) (by kernel_rfl) (by kernel_rfl) (fun _ _ _ h => h) (Or.inl ⟨by rfl, fun w hSw => by obtain ⟨hS1, hS2⟩ := hSw; go_simp⟩) (by assumption) ?_
                    simp only [List.getElem_toArray, List.getElem_cons_succ, List.getElem_cons_zero, Act.put, List.setIfInBounds_toArray, List.set_cons_zero, List.set_cons_succ]
                    refine wpAnyH_take (i := 39) (v := .int .i64 (nb : Int)) rfl (by kernel_rfl) (by kernel_rfl) (by kernel_rfl) (fun _ _ _ h => h) (Or.inl ⟨by rfl, fun w hSw => by obtain ⟨hS1, hS2⟩ := hSw; go_simp⟩) (by assumption) ?_
                    simp only [List.getElem_toArray, List.getElem_cons_succ, List.getElem_cons_zero, Act.put, List.setIfInBounds_toArray, List.set_cons_zero, List.set_cons_succ]
                    refine wpAnyH_ready (rs := [40]) (by kernel_rfl) (by simp) (AllReadyH.cons rfl (fun K hK => ?_) AllReadyH.nil)
                    refine step_call4GC (by rfl) 9 sound_enter6 (.tmp 230) (.tmp 231) (.tmp 232) (.tmp 234) _ rfl rfl rfl rfl rfl (unhide HSO _ _ _ _ hx3 HD4.out) ?_
                    rintro e wd ⟨rfl, hbwd⟩
                    have hx4 : Below wr.heap.size wr wd := hx3.trans (hbwd.mono hx3.size)
                    refine ⟨_, rfl, ?_⟩
                    refine hK.out _ _ (unhide HSS _ hx4) (fun hJ4 => ?_)
                    clear hK K
                    simp only [List.getElem_toArray, List.getElem_cons_succ, List.getElem_cons_zero, Act.put, List.setIfInBounds_toArray, List.set_cons_zero, List.set_cons_succ]
                    refine wpAnyH_take (i := 41) (v := .bool false) rfl (by kernel_rfl) (by kernel_rfl) (by kernel_rfl) (fun _ _ _ h => h) (Or.inl ⟨by rfl, fun w hSw => by obtain ⟨hS1, hS2⟩ := hSw; go_simp⟩) (by assumption) ?_
                    simp only [List.getElem_toArray, List.getElem_cons_succ, List.getElem_cons_zero, Act.put, List.setIfInBounds_toArray, List.set_cons_zero, List.set_cons_succ]
                    refine wpAnyH_take (i := 42) (v := .bool false) rfl (by kernel_rfl) (by kernel_rfl) (by kernel_rfl) (fun _ _ _ h => h) (Or.inl ⟨by rfl, fun w hSw => by obtain ⟨hS1, hS2⟩ := hSw; go_simp⟩) (by assumption) ?_
                    simp only [List.getElem_toArray, List.getElem_cons_succ, List.getElem_cons_zero, Act.put, List.setIfInBounds_toArray, List.set_cons_zero, List.set_cons_succ]
                    refine wpAnyH_take (i := 43) (v := .int .i64 (P : Int)) rfl (by kernel_rfl) (by kernel_rfl) (by kernel_rfl) (fun _ _ _ h => h) (Or.inl ⟨by rfl, fun w hSw => by obtain ⟨hS1, hS2⟩ := hSw; go_simp⟩) (by assumption) ?_
                    simp only [List.getElem_toArray, List.getElem_cons_succ, List.getElem_cons_zero, Act.put, List.setIfInBounds_toArray, List.set_cons_zero, List.set_cons_succ]
                    refine wpAnyH_take (i := 44) (v := .bool true) rfl (by kernel_rfl) (by kernel_rfl) (by kernel_rfl) (fun _ _ _ h => h) (Or.inl ⟨by rfl, fun w hSw => by obtain ⟨hS1, hS2⟩ := hSw; go_simp⟩) (by assumption) ?_
                    simp only [List.getElem_toArray, List.getElem_cons_succ, List.getElem_cons_zero, Act.put, List.setIfInBounds_toArray, List.set_cons_zero, List.set_cons_succ]
                    refine wpAnyH_take (i := 45) (v := .bool true) rfl (by kernel_rfl) (by kernel_rfl) (by kernel_rfl) (fun _ _ _ h => h) (Or.inl ⟨by rfl, fun w hSw => by obtain ⟨hS1, hS2⟩ := hSw; go_simp⟩) (by assumption) ?_
                    simp only [List.getElem_toArray, List.getElem_cons_succ, List.getElem_cons_zero, Act.put, List.setIfInBounds_toArray, List.set_cons_zero, List.set_cons_succ]
                    refine wpAnyH_take (i := 46) (v := .slice (some ⟨gO, 0, none⟩) i co) rfl (by kernel_rfl) (by kernel_rfl) (by kernel_rfl) (fun _ _ _ h => h) (Or.inl ⟨by rfl, fun w hSw => by obtain ⟨hS1, hS2⟩ := hSw; go_simp⟩) (by assumption) ?_
                    simp only [List.getElem_toArray, List.getElem_cons_succ, List.getElem_cons_zero, Act.put, List.setIfInBounds_toArray, List.set_cons_zero, List.set_cons_succ]
                    refine wpAnyH_take (i := 47) (v := .int .i64 (P : Int)) rfl (by kernel_rfl) (by kernel_rfl) (by kernel_rfl) (fun _ _ _ h => h) (Or.inl ⟨by rfl, fun w hSw => by obtain ⟨hS1, hS2⟩ := hSw; go_simp⟩) (by assumption) ?_
                    simp only [List.getElem_toArray, List.getElem_cons_succ, List.getElem_cons_zero, Act.put, List.setIfInBounds_toArray, List.set_cons_zero, List.set_cons_succ]
                    refine wpAnyH_take (i := 48) (v := .pointer (some ⟨gO, P, none⟩)) rfl (by kernel_rfl) (by kernel_rfl) (by kernel_rfl) (fun _ _ _ h => h) (Or.inl ⟨by rfl, fun w hSw => by obtain ⟨hS1, hS2⟩ := hSw; go_simp⟩) (by assumption) ?_
                    simp only [List.getElem_toArray, List.getElem_cons_succ, List.getElem_cons_zero, Act.put, List.setIfInBounds_toArray, List.set_cons_zero, List.set_cons_succ]
                    refine wpAnyH_take (i := 49) (v := .slice (ra) 512 rc) rfl (by kernel_rfl) (by kernel_rfl) (by kernel_rfl) (fun _ _ _ h => h) (Or.inl ⟨by rfl, fun w hSw => by obtain ⟨hS1, hS2⟩ := hSw; go_simp⟩) (by assumption) ?_
                    simp only [List.getElem_toArray, List.getElem_cons_succ, List.getElem_cons_zero, Act.put, List.setIfInBounds_toArray, List.set_cons_zero, List.set_cons_succ]
                    refine wpAnyH_take (i := 50) (v := .agg (rV).toArray) rfl (by kernel_rfl) (by kernel_rfl) (by kernel_rfl) (fun _ _ _ h => h) (yieldsIf_load_mid (by rfl) _ _ rfl _ _ rfl _ _ (fun w hSw => hSw.2) Tryd.underlying26 rfl hiR) (by assumption) ?_
                    simp only [List.getElem_toArray, List.getElem_cons_succ, List.getElem_cons_zero, Act.put, List.setIfInBounds_toArray, List.set_cons_zero, List.set_cons_succ]
                    refine wpAnyH_take (i := 51) (v := .int .i64 (P : Int)) rfl (by kernel_rfl) (by kernel_rfl) (by kernel_rfl) (fun _ _ _ h => h) (Or.inl ⟨by rfl, fun w hSw => by obtain ⟨hS1, hS2⟩ := hSw; go_simp⟩) (by assumption) ?_
                    simp only [List.getElem_toArray, List.getElem_cons_succ, List.getElem_cons_zero, Act.put, List.setIfInBounds_toArray, List.set_cons_zero, List.set_cons_succ]
                    refine wpAnyH_take (i := 52) (v := .int .i64 (Ps : Int)) rfl (by kernel_rfl) (by kernel_rfl) (by kernel_rfl) (fun _ _ _ h => h) (Or.inl ⟨by rfl, fun w hSw => by obtain ⟨hS1, hS2⟩ := hSw; go_simp⟩) (by assumption) ?_
                    simp only [List.getElem_toArray, List.getElem_cons_succ, List.getElem_cons_zero, Act.put, List.setIfInBounds_toArray, List.set_cons_zero, List.set_cons_succ]
                    refine wpAnyH_take (i := 53) (v := .int .i64 (nx : Int)) rfl (by kernel_rfl) (by kernel_rfl) (by kernel_rfl) (fun _ _ _ h => h) (Or.inl ⟨by rfl, fun w hSw => by obtain ⟨hS1, hS2⟩ := hSw; go_simp⟩) (by assumption) ?_
                    simp only [List.getElem_toArray, List.getElem_cons_succ, List.getElem_cons_zero, Act.put, List.setIfInBounds_toArray, List.set_cons_zero, List.set_cons_succ]
                    refine wpAnyH_ready (rs := [54]) (by kernel_rfl) (by simp) (AllReadyH.cons rfl (fun K hK => ?_) AllReadyH.nil)
                    refine step_call4GC (by rfl) 9 sound_enter6 (.tmp 244) (.tmp 245) (.tmp 247) (.tmp 248) _ rfl rfl rfl rfl rfl (unhide HSO _ _ _ _ hx4 HD5.out) ?_
                    rintro e we ⟨rfl, hbwe⟩
                    have hx5 : Below wr.heap.size wr we := hx4.trans (hbwe.mono hx4.size)
                    refine ⟨_, rfl, ?_⟩
                    refine hK.out _ _ (unhide HSS _ hx5) (fun hJ5 => ?_)
                    clear hK K
                    simp only [List.getElem_toArray, List.getElem_cons_succ, List.getElem_cons_zero, Act.put, List.setIfInBounds_toArray, List.set_cons_zero, List.set_cons_succ]
                    refine wpAnyH_take (i := 55) (v := .bool false) rfl (by kernel_rfl) (by kernel_rfl) (by kernel_rfl) (fun _ _ _ h => h) (Or.inl ⟨by rfl, fun w hSw => by obtain ⟨hS1, hS2⟩ := hSw; go_simp⟩) (by assumption) ?_
                    simp only [List.getElem_toArray, List.getElem_cons_succ, List.getElem_cons_zero, Act.put, List.setIfInBounds_toArray, List.set_cons_zero, List.set_cons_succ]
                    refine wpAnyH_take (i := 56) (v := .bool false) rfl (by kernel_rfl) (by kernel_rfl) (by kernel_rfl) (fun _ _ _ h => h) (Or.inl ⟨by rfl, fun w hSw => by obtain ⟨hS1, hS2⟩ := hSw; go_simp⟩) (by assumption) ?_
                    simp only [List.getElem_toArray, List.getElem_cons_succ, List.getElem_cons_zero, Act.put, List.setIfInBounds_toArray, List.set_cons_zero, List.set_cons_succ]
                    refine wpAnyH_done (by kernel_rfl) ?_ _
                    have HGZ : Hid (Gs w we S p gl gm V' D gL i ks BO gO co us ((List.range i).map (sectK TX ks)) gF rV gT L TX i) := hide (HJ.out.below hx5)
                    clear hHeld hJ1 hJ2 hJ3 hJ4 hJ5 HJ HSS HSO
                    go_wp2
                    go_roundw
                    case rel => exact ⟨j + 1, by omega, by omega, by go_num, HGZ⟩
                    case measure => simp [intOf]; omega
                  · have hgeI : ¬ (256 : Int) ≤ (P : Int) := by omega
                    go_wp2_with fail
                    refine (unhide HWP _).mono ?_
                    rintro e wn ⟨rfl, hwn⟩
                    obtain rfl := hwn.symm
                    clear hwn HWP
                    go_wp2_with fail
                    have hx0 : Below wr.heap.size wr wr.drew := (Below.refl _ _).drew
                    refine wp_region_held_drew (S := fun W => W.cell? ⟨gO, P, none⟩ = some (.slice ra 512 rc) ∧ W.rangeAt gF 0 rV) (by kernel_rfl) (unhide HSS _ hx0) (fun hHeld => ?_)
                    refine wpAnyH_take (i := 0) (v := .slice (some ⟨gO, 0, none⟩) i co) rfl (by kernel_rfl) (by kernel_rfl) (by kernel_rfl) (fun _ _ _ h => h) (Or.inl ⟨by rfl, fun w hSw => by obtain ⟨hS1, hS2⟩ := hSw; go_simp⟩) (by assumption) ?_
                    simp only [List.getElem_toArray, List.getElem_cons_zero, Act.put, List.setIfInBounds_toArray, List.set_cons_zero, List.set_cons_succ]
                    refine wpAnyH_take (i := 1) (v := .int .i64 (P : Int)) rfl (by kernel_rfl) (by kernel_rfl) (by kernel_rfl) (fun _ _ _ h => h) (Or.inl ⟨by rfl, fun w hSw => by obtain ⟨hS1, hS2⟩ := hSw; go_simp⟩) (by assumption) ?_
                    simp only [List.getElem_toArray, List.getElem_cons_succ, List.getElem_cons_zero, Act.put, List.setIfInBounds_toArray, List.set_cons_zero, List.set_cons_succ]
                    refine wpAnyH_take (i := 2) (v := .pointer (some ⟨gO, P, none⟩)) rfl (by kernel_rfl) (by kernel_rfl) (by kernel_rfl) (fun _ _ _ h => h) (Or.inl ⟨by rfl, fun w hSw => by obtain ⟨hS1, hS2⟩ := hSw; go_simp⟩) (by assumption) ?_
                    simp only [List.getElem_toArray, List.getElem_cons_succ, List.getElem_cons_zero, Act.put, List.setIfInBounds_toArray, List.set_cons_zero, List.set_cons_succ]
                    refine wpAnyH_take (i := 3) (v := .slice (ra) 512 rc) rfl (by kernel_rfl) (by kernel_rfl) (by kernel_rfl) (fun _ _ _ h => h) (Or.inl ⟨by rfl, fun w hSw => by obtain ⟨hS1, hS2⟩ := hSw; go_simp⟩) (by assumption) ?_
                    simp only [List.getElem_toArray, List.getElem_cons_succ, List.getElem_cons_zero, Act.put, List.setIfInBounds_toArray, List.set_cons_zero, List.set_cons_succ]
                    refine wpAnyH_take (i := 4) (v := .agg (rV).toArray) rfl (by kernel_rfl) (by kernel_rfl) (by kernel_rfl) (fun _ _ _ h => h) (yieldsIf_load_mid (by rfl) _ _ rfl _ _ rfl _ _ (fun w hSw => hSw.2) Tryd.underlying26 rfl hiR) (by assumption) ?_
                    simp only [List.getElem_toArray, List.getElem_cons_succ, List.getElem_cons_zero, Act.put, List.setIfInBounds_toArray, List.set_cons_zero, List.set_cons_succ]
                    refine wpAnyH_take (i := 5) (v := .int .i64 (P : Int)) rfl (by kernel_rfl) (by kernel_rfl) (by kernel_rfl) (fun _ _ _ h => h) (Or.inl ⟨by rfl, fun w hSw => by obtain ⟨hS1, hS2⟩ := hSw; go_simp⟩) (by assumption) ?_
                    simp only [List.getElem_toArray, List.getElem_cons_succ, List.getElem_cons_zero, Act.put, List.setIfInBounds_toArray, List.set_cons_zero, List.set_cons_succ]
                    refine wpAnyH_take (i := 6) (v := .int .i64 (nx : Int)) rfl (by kernel_rfl) (by kernel_rfl) (by kernel_rfl) (fun _ _ _ h => h) (Or.inl ⟨by rfl, fun w hSw => by obtain ⟨hS1, hS2⟩ := hSw; go_simp⟩) (by assumption) ?_
                    simp only [List.getElem_toArray, List.getElem_cons_succ, List.getElem_cons_zero, Act.put, List.setIfInBounds_toArray, List.set_cons_zero, List.set_cons_succ]
                    refine wpAnyH_ready (rs := [7]) (by kernel_rfl) (by simp) (AllReadyH.cons rfl (fun K hK => ?_) AllReadyH.nil)
                    refine step_call4C (by rfl) 9 sound_enter6 (.tmp 198) (.tmp 199) (.tmp 200) (.tmp 201) _ rfl rfl rfl rfl rfl (unhide HSO _ _ _ _ hx0 HD1.out) ?_
                    rintro e wa ⟨rfl, hbwa⟩
                    have hx1 : Below wr.heap.size wr wa := hx0.trans (hbwa.mono hx0.size)
                    refine ⟨_, rfl, ?_⟩
                    refine hK.out _ _ (unhide HSS _ hx1) (fun hJ1 => ?_)
                    clear hK K
                    simp only [List.getElem_toArray, List.getElem_cons_succ, List.getElem_cons_zero, Act.put, List.setIfInBounds_toArray, List.set_cons_zero, List.set_cons_succ]
                    refine wpAnyH_take (i := 8) (v := .bool false) rfl (by kernel_rfl) (by kernel_rfl) (by kernel_rfl) (fun _ _ _ h => h) (Or.inl ⟨by rfl, fun w hSw => by obtain ⟨hS1, hS2⟩ := hSw; go_simp⟩) (by assumption) ?_
                    simp only [List.getElem_toArray, List.getElem_cons_succ, List.getElem_cons_zero, Act.put, List.setIfInBounds_toArray, List.set_cons_zero, List.set_cons_succ]
                    refine wpAnyH_take (i := 9) (v := .bool false) rfl (by kernel_rfl) (by kernel_rfl) (by kernel_rfl) (fun _ _ _ h => h) (Or.inl ⟨by rfl, fun w hSw => by obtain ⟨hS1, hS2⟩ := hSw; go_simp⟩) (by assumption) ?_
                    simp only [List.getElem_toArray, List.getElem_cons_succ, List.getElem_cons_zero, Act.put, List.setIfInBounds_toArray, List.set_cons_zero, List.set_cons_succ]
                    refine wpAnyH_take (i := 10) (v := .slice (some ⟨gO, 0, none⟩) i co) rfl (by kernel_rfl) (by kernel_rfl) (by kernel_rfl) (fun _ _ _ h => h) (Or.inl ⟨by rfl, fun w hSw => by obtain ⟨hS1, hS2⟩ := hSw; go_simp⟩) (by assumption) ?_
                    simp only [List.getElem_toArray, List.getElem_cons_succ, List.getElem_cons_zero, Act.put, List.setIfInBounds_toArray, List.set_cons_zero, List.set_cons_succ]
                    refine wpAnyH_take (i := 11) (v := .int .i64 (P : Int)) rfl (by kernel_rfl) (by kernel_rfl) (by kernel_rfl) (fun _ _ _ h => h) (Or.inl ⟨by rfl, fun w hSw => by obtain ⟨hS1, hS2⟩ := hSw; go_simp⟩) (by assumption) ?_
                    simp only [List.getElem_toArray, List.getElem_cons_succ, List.getElem_cons_zero, Act.put, List.setIfInBounds_toArray, List.set_cons_zero, List.set_cons_succ]
                    refine wpAnyH_take (i := 12) (v := .pointer (some ⟨gO, P, none⟩)) rfl (by kernel_rfl) (by kernel_rfl) (by kernel_rfl) (fun _ _ _ h => h) (Or.inl ⟨by rfl, fun w hSw => by obtain ⟨hS1, hS2⟩ := hSw; go_simp⟩) (by assumption) ?_
                    simp only [List.getElem_toArray, List.getElem_cons_succ, List.getElem_cons_zero, Act.put, List.setIfInBounds_toArray, List.set_cons_zero, List.set_cons_succ]
                    refine wpAnyH_take (i := 13) (v := .slice (ra) 512 rc) rfl (by kernel_rfl) (by kernel_rfl) (by kernel_rfl) (fun _ _ _ h => h) (Or.inl ⟨by rfl, fun w hSw => by obtain ⟨hS1, hS2⟩ := hSw; go_simp⟩) (by assumption) ?_
                    simp only [List.getElem_toArray, List.getElem_cons_succ, List.getElem_cons_zero, Act.put, List.setIfInBounds_toArray, List.set_cons_zero, List.set_cons_succ]
                    refine wpAnyH_take (i := 14) (v := .agg (rV).toArray) rfl (by kernel_rfl) (by kernel_rfl) (by kernel_rfl) (fun _ _ _ h => h) (yieldsIf_load_mid (by rfl) _ _ rfl _ _ rfl _ _ (fun w hSw => hSw.2) Tryd.underlying26 rfl hiR) (by assumption) ?_
                    simp only [List.getElem_toArray, List.getElem_cons_succ, List.getElem_cons_zero, Act.put, List.setIfInBounds_toArray, List.set_cons_zero, List.set_cons_succ]
                    refine wpAnyH_take (i := 15) (v := .int .i64 (P : Int)) rfl (by kernel_rfl) (by kernel_rfl) (by kernel_rfl) (fun _ _ _ h => h) (Or.inl ⟨by rfl, fun w hSw => by obtain ⟨hS1, hS2⟩ := hSw; go_simp⟩) (by assumption) ?_
                    simp only [List.getElem_toArray, List.getElem_cons_succ, List.getElem_cons_zero, Act.put, List.setIfInBounds_toArray, List.set_cons_zero, List.set_cons_succ]
                    refine wpAnyH_take (i := 16) (v := .int .i64 (Pa : Int)) rfl (by kernel_rfl) (by kernel_rfl) (by kernel_rfl) (fun _ _ _ h => h) (Or.inl ⟨by rfl, fun w hSw => by obtain ⟨hS1, hS2⟩ := hSw; go_simp⟩) (by assumption) ?_
                    simp only [List.getElem_toArray, List.getElem_cons_succ, List.getElem_cons_zero, Act.put, List.setIfInBounds_toArray, List.set_cons_zero, List.set_cons_succ]
                    refine wpAnyH_take (i := 17) (v := .int .i64 (nx : Int)) rfl (by kernel_rfl) (by kernel_rfl) (by kernel_rfl) (fun _ _ _ h => h) (Or.inl ⟨by rfl, fun w hSw => by obtain ⟨hS1, hS2⟩ := hSw; go_simp⟩) (by assumption) ?_
                    simp only [List.getElem_toArray, List.getElem_cons_succ, List.getElem_cons_zero, Act.put, List.setIfInBounds_toArray, List.set_cons_zero, List.set_cons_succ]
                    refine wpAnyH_ready (rs := [18]) (by kernel_rfl) (by simp) (AllReadyH.cons rfl (fun K hK => ?_) AllReadyH.nil)
                    refine step_call4GC (by rfl) 9 sound_enter6 (.tmp 208) (.tmp 209) (.tmp 211) (.tmp 212) _ rfl rfl rfl rfl rfl (unhide HSO _ _ _ _ hx1 HD2.out) ?_
                    rintro e wb ⟨rfl, hbwb⟩
                    have hx2 : Below wr.heap.size wr wb := hx1.trans (hbwb.mono hx1.size)
                    refine ⟨_, rfl, ?_⟩
                    refine hK.out _ _ (unhide HSS _ hx2) (fun hJ2 => ?_)
                    clear hK K
                    simp only [List.getElem_toArray, List.getElem_cons_succ, List.getElem_cons_zero, Act.put, List.setIfInBounds_toArray, List.set_cons_zero, List.set_cons_succ]
                    refine wpAnyH_take (i := 19) (v := .bool false) rfl (by kernel_rfl) (by kernel_rfl) (by kernel_rfl) (fun _ _ _ h => h) (Or.inl ⟨by rfl, fun w hSw => by obtain ⟨hS1, hS2⟩ := hSw; go_simp⟩) (by assumption) ?_
                    simp only [List.getElem_toArray, List.getElem_cons_succ, List.getElem_cons_zero, Act.put, List.setIfInBounds_toArray, List.set_cons_zero, List.set_cons_succ]
                    refine wpAnyH_take (i := 20) (v := .bool false) rfl (by kernel_rfl) (by kernel_rfl) (by kernel_rfl) (fun _ _ _ h => h) (Or.inl ⟨by rfl, fun w hSw => by obtain ⟨hS1, hS2⟩ := hSw; go_simp⟩) (by assumption) ?_
                    simp only [List.getElem_toArray, List.getElem_cons_succ, List.getElem_cons_zero, Act.put, List.setIfInBounds_toArray, List.set_cons_zero, List.set_cons_succ]
                    refine wpAnyH_take (i := 21) (v := .slice (some ⟨gO, 0, none⟩) i co) rfl (by kernel_rfl) (by kernel_rfl) (by kernel_rfl) (fun _ _ _ h => h) (Or.inl ⟨by rfl, fun w hSw => by obtain ⟨hS1, hS2⟩ := hSw; go_simp⟩) (by assumption) ?_
                    simp only [List.getElem_toArray, List.getElem_cons_succ, List.getElem_cons_zero, Act.put, List.setIfInBounds_toArray, List.set_cons_zero, List.set_cons_succ]
                    refine wpAnyH_take (i := 22) (v := .int .i64 (P : Int)) rfl (by kernel_rfl) (by kernel_rfl) (by kernel_rfl) (fun _ _ _ h => h) (Or.inl ⟨by rfl, fun w hSw => by obtain ⟨hS1, hS2⟩ := hSw; go_simp⟩) (by assumption) ?_
                    simp only [List.getElem_toArray, List.getElem_cons_succ, List.getElem_cons_zero, Act.put, List.setIfInBounds_toArray, List.set_cons_zero, List.set_cons_succ]
                    refine wpAnyH_take (i := 23) (v := .pointer (some ⟨gO, P, none⟩)) rfl (by kernel_rfl) (by kernel_rfl) (by kernel_rfl) (fun _ _ _ h => h) (Or.inl ⟨by rfl, fun w hSw => by obtain ⟨hS1, hS2⟩ := hSw; go_simp⟩) (by assumption) ?_
                    simp only [List.getElem_toArray, List.getElem_cons_succ, List.getElem_cons_zero, Act.put, List.setIfInBounds_toArray, List.set_cons_zero, List.set_cons_succ]
                    refine wpAnyH_take (i := 24) (v := .slice (ra) 512 rc) rfl (by kernel_rfl) (by kernel_rfl) (by kernel_rfl) (fun _ _ _ h => h) (Or.inl ⟨by rfl, fun w hSw => by obtain ⟨hS1, hS2⟩ := hSw; go_simp⟩) (by assumption) ?_
                    simp only [List.getElem_toArray, List.getElem_cons_succ, List.getElem_cons_zero, Act.put, List.setIfInBounds_toArray, List.set_cons_zero, List.set_cons_succ]
                    refine wpAnyH_take (i := 25) (v := .agg (rV).toArray) rfl (by kernel_rfl) (by kernel_rfl) (by kernel_rfl) (fun _ _ _ h => h) (yieldsIf_load_mid (by rfl) _ _ rfl _ _ rfl _ _ (fun w hSw => hSw.2) Tryd.underlying26 rfl hiR) (by assumption) ?_
                    simp only [List.getElem_toArray, List.getElem_cons_succ, List.getElem_cons_zero, Act.put, List.setIfInBounds_toArray, List.set_cons_zero, List.set_cons_succ]
                    refine wpAnyH_take (i := 26) (v := .int .i64 (P : Int)) rfl (by kernel_rfl) (by kernel_rfl) (by kernel_rfl) (fun _ _ _ h => h) (Or.inl ⟨by rfl, fun w hSw => by obtain ⟨hS1, hS2⟩ := hSw; go_simp⟩) (by assumption) ?_
                    simp only [List.getElem_toArray, List.getElem_cons_succ, List.getElem_cons_zero, Act.put, List.setIfInBounds_toArray, List.set_cons_zero, List.set_cons_succ]
                    refine wpAnyH_take (i := 27) (v := .int .i64 (nx : Int)) rfl (by kernel_rfl) (by kernel_rfl) (by kernel_rfl) (fun _ _ _ h => h) (Or.inl ⟨by rfl, fun w hSw => by obtain ⟨hS1, hS2⟩ := hSw; go_simp⟩) (by assumption) ?_
                    simp only [List.getElem_toArray, List.getElem_cons_succ, List.getElem_cons_zero, Act.put, List.setIfInBounds_toArray, List.set_cons_zero, List.set_cons_succ]
                    refine wpAnyH_take (i := 28) (v := .int .i64 y) rfl (by kernel_rfl) (by kernel_rfl) (by kernel_rfl) (fun _ _ _ h => h) (Or.inl ⟨by rfl, fun w hSw => by obtain ⟨hS1, hS2⟩ := hSw; go_simp⟩) (by assumption) ?_
                    simp only [List.getElem_toArray, List.getElem_cons_succ, List.getElem_cons_zero, Act.put, List.setIfInBounds_toArray, List.set_cons_zero, List.set_cons_succ]
                    refine wpAnyH_ready (rs := [29]) (by kernel_rfl) (by simp) (AllReadyH.cons rfl (fun K hK => ?_) AllReadyH.nil)
                    refine step_call4GC (by rfl) 9 sound_enter6 (.tmp 219) (.tmp 220) (.tmp 221) (.tmp 223) _ rfl rfl rfl rfl rfl (unhide HSO _ _ _ _ hx2 HD3.out) ?_
                    rintro e wc ⟨rfl, hbwc⟩
                    have hx3 : Below wr.heap.size wr wc := hx2.trans (hbwc.mono hx2.size)
                    refine ⟨_, rfl, ?_⟩
                    refine hK.out _ _ (unhide HSS _ hx3) (fun hJ3 => ?_)
                    clear hK K
                    simp only [List.getElem_toArray, List.getElem_cons_succ, List.getElem_cons_zero, Act.put, List.setIfInBounds_toArray, List.set_cons_zero, List.set_cons_succ]
                    refine wpAnyH_take (i := 30) (v := .bool false) rfl (by kernel_rfl) (by kernel_rfl) (by kernel_rfl) (fun _ _ _ h => h) (Or.inl ⟨by rfl, fun w hSw => by obtain ⟨hS1, hS2⟩ := hSw; go_simp⟩) (by assumption) ?_
                    simp only [List.getElem_toArray, List.getElem_cons_succ, List.getElem_cons_zero, Act.put, List.setIfInBounds_toArray, List.set_cons_zero, List.set_cons_succ]
                    refine wpAnyH_take (i := 31) (v := .bool false) rfl (by kernel_rfl) (by kernel_rfl) (by kernel_rfl) (fun _ _ _ h => h) (Or.inl ⟨by rfl, fun w hSw => by obtain ⟨hS1, hS2⟩ := hSw; go_simp⟩) (by assumption) ?_
                    simp only [List.getElem_toArray, List.getElem_cons_succ, List.getElem_cons_zero, Act.put, List.setIfInBounds_toArray, List.set_cons_zero, List.set_cons_succ]
                    refine wpAnyH_take (i := 32) (v := .slice (some ⟨gO, 0, none⟩) i co) rfl (by kernel_rfl) (by kernel_rfl) (by kernel_rfl) (fun _ _ _ h => h) (Or.inl ⟨by rfl, fun w hSw => by obtain ⟨hS1, hS2⟩ := hSw; go_simp⟩) (by assumption) ?_
                    simp only [List.getElem_toArray, List.getElem_cons_succ, List.getElem_cons_zero, Act.put, List.setIfInBounds_toArray, List.set_cons_zero, List.set_cons_succ]
                    refine wpAnyH_take (i := 33) (v := .int .i64 (P : Int)) rfl (by kernel_rfl) (by kernel_rfl) (by kernel_rfl) (fun _ _ _ h => h) (Or.inl ⟨by rfl, fun w hSw => by obtain ⟨hS1, hS2⟩ := hSw; go_simp⟩) (by assumption) ?_
                    simp only [List.getElem_toArray, List.getElem_cons_succ, List.getElem_cons_zero, Act.put, List.setIfInBounds_toArray, List.set_cons_zero, List.set_cons_succ]
                    refine wpAnyH_take (i := 34) (v := .pointer (some ⟨gO, P, none⟩)) rfl (by kernel_rfl) (by kernel_rfl) (by kernel_rfl) (fun _ _ _ h => h) (Or.inl ⟨by rfl, fun w hSw => by obtain ⟨hS1, hS2⟩ := hSw; go_simp⟩) (by assumption) ?_
                    simp only [List.getElem_toArray, List.getElem_cons_succ, List.getElem_cons_zero, Act.put, List.setIfInBounds_toArray, List.set_cons_zero, List.set_cons_succ]
                    refine wpAnyH_take (i := 35) (v := .slice (ra) 512 rc) rfl (by kernel_rfl) (by kernel_rfl) (by kernel_rfl) (fun _ _ _ h => h) (Or.inl ⟨by rfl, fun w hSw => by obtain ⟨hS1, hS2⟩ := hSw; go_simp⟩) (by assumption) ?_
                    simp only [List.getElem_toArray, List.getElem_cons_succ, List.getElem_cons_zero, Act.put, List.setIfInBounds_toArray, List.set_cons_zero, List.set_cons_succ]
                    refine wpAnyH_take (i := 36) (v := .agg (rV).toArray) rfl (by kernel_rfl) (by kernel_rfl) (by kernel_rfl) (fun _ _ _ h => h) (yieldsIf_load_mid (by rfl) _ _ rfl _ _ rfl _ _ (fun w hSw => hSw.2) Tryd.underlying26 rfl hiR) (by assumption) ?_
                    simp only [List.getElem_toArray, List.getElem_cons_succ, List.getElem_cons_zero, Act.put, List.setIfInBounds_toArray, List.set_cons_zero, List.set_cons_succ]
                    refine wpAnyH_take (i := 37) (v := .int .i64 (P : Int)) rfl (by kernel_rfl) (by kernel_rfl) (by kernel_rfl) (fun _ _ _ h => h) (Or.inl ⟨by rfl, fun w hSw => by obtain ⟨hS1, hS2⟩ := hSw; go_simp⟩) (by assumption) ?_
                    simp only [List.getElem_toArray, List.getElem_cons_succ, List.getElem_cons_zero, Act.put, List.setIfInBounds_toArray, List.set_cons_zero, List.set_cons_succ]
                    refine wpAnyH_take (i := 38) (v := .int .i64 (nx : Int)) rfl (by kernel_rfl) (by kernel_rfl) (by kernel_rfl) (fun _ _ _ h => h) (Or.inl ⟨by rfl, fun w hSw => by obtain ⟨hS1, hS2⟩ := hSw; go_simp⟩) (by assumption) ?_
                    simp only [List.getElem_toArray, List.getElem_cons_succ, List.getElem_cons_zero, Act.put, List.setIfInBounds_toArray, List.set_cons_zero, List.set_cons_succ]
                    refine wpAnyH_take (i := 39) (v := .int .i64 (nb : Int)) rfl (by kernel_rfl) (by kernel_rfl) (by kernel_rfl) (fun _ _ _ h => h) (Or.inl ⟨by rfl, fun w hSw => by obtain ⟨hS1, hS2⟩ := hSw; go_simp⟩) (by assumption) ?_
                    simp only [List.getElem_toArray, List.getElem_cons_succ, List.getElem_cons_zero, Act.put, List.setIfInBounds_toArray, List.set_cons_zero, List.set_cons_succ]
                    refine wpAnyH_ready (rs := [40]) (by kernel_rfl) (by simp) (AllReadyH.cons rfl (fun K hK => ?_) AllReadyH.nil)
                    refine step_call4GC (by rfl) 9 sound_enter6 (.tmp 230) (.tmp 231) (.tmp 232) (.tmp 234) _ rfl rfl rfl rfl rfl (unhide HSO _ _ _ _ hx3 HD4.out) ?_
                    rintro e wd ⟨rfl, hbwd⟩
                    have hx4 : Below wr.heap.size wr wd := hx3.trans (hbwd.mono hx3.size)
                    refine ⟨_, rfl, ?_⟩
                    refine hK.out _ _ (unhide HSS _ hx4) (fun hJ4 => ?_)
                    clear hK K
                    simp only [List.getElem_toArray, List.getElem_cons_succ, List.getElem_cons_zero, Act.put, List.setIfInBounds_toArray, List.set_cons_zero, List.set_cons_succ]
                    refine wpAnyH_take (i := 41) (v := .bool false) rfl (by kernel_rfl) (by kernel_rfl) (by kernel_rfl) (fun _ _ _ h => h) (Or.inl ⟨by rfl, fun w hSw => by obtain ⟨hS1, hS2⟩ := hSw; go_simp⟩) (by assumption) ?_
                    simp only [List.getElem_toArray, List.getElem_cons_succ, List.getElem_cons_zero, Act.put, List.setIfInBounds_toArray, List.set_cons_zero, List.set_cons_succ]
                    refine wpAnyH_take (i := 42) (v := .bool false) rfl (by kernel_rfl) (by kernel_rfl) (by kernel_rfl) (fun _ _ _ h => h) (Or.inl ⟨by rfl, fun w hSw => by obtain ⟨hS1, hS2⟩ := hSw; go_simp⟩) (by assumption) ?_
                    simp only [List.getElem_toArray, List.getElem_cons_succ, List.getElem_cons_zero, Act.put, List.setIfInBounds_toArray, List.set_cons_zero, List.set_cons_succ]
                    refine wpAnyH_take (i := 43) (v := .int .i64 (P : Int)) rfl (by kernel_rfl) (by kernel_rfl) (by kernel_rfl) (fun _ _ _ h => h) (Or.inl ⟨by rfl, fun w hSw => by obtain ⟨hS1, hS2⟩ := hSw; go_simp⟩) (by assumption) ?_
                    simp only [List.getElem_toArray, List.getElem_cons_succ, List.getElem_cons_zero, Act.put, List.setIfInBounds_toArray, List.set_cons_zero, List.set_cons_succ]
                    refine wpAnyH_take (i := 44) (v := .bool false) rfl (by kernel_rfl) (by kernel_rfl) (by kernel_rfl) (fun _ _ _ h => h) (Or.inl ⟨by rfl, fun w hSw => by obtain ⟨hS1, hS2⟩ := hSw; go_simp⟩) (by assumption) ?_
                    simp only [List.getElem_toArray, List.getElem_cons_succ, List.getElem_cons_zero, Act.put, List.setIfInBounds_toArray, List.set_cons_zero, List.set_cons_succ]
                    refine wpAnyH_take (i := 45) (v := .bool false) rfl (by kernel_rfl) (by kernel_rfl) (by kernel_rfl) (fun _ _ _ h => h) (Or.inl ⟨by rfl, fun w hSw => by obtain ⟨hS1, hS2⟩ := hSw; go_simp⟩) (by assumption) ?_
                    simp only [List.getElem_toArray, List.getElem_cons_succ, List.getElem_cons_zero, Act.put, List.setIfInBounds_toArray, List.set_cons_zero, List.set_cons_succ]
                    refine wpAnyH_take (i := 46) (v := undef) rfl (by kernel_rfl) (by kernel_rfl) (by kernel_rfl) (fun _ _ _ h => h) (Or.inr ⟨by rfl, rfl⟩) (by assumption) ?_
                    simp only [List.getElem_toArray, List.getElem_cons_succ, List.getElem_cons_zero, Act.put, List.setIfInBounds_toArray, List.set_cons_zero, List.set_cons_succ]
                    refine wpAnyH_take (i := 47) (v := undef) rfl (by kernel_rfl) (by kernel_rfl) (by kernel_rfl) (fun _ _ _ h => h) (Or.inr ⟨by rfl, rfl⟩) (by assumption) ?_
                    simp only [List.getElem_toArray, List.getElem_cons_succ, List.getElem_cons_zero, Act.put, List.setIfInBounds_toArray, List.set_cons_zero, List.set_cons_succ]
                    refine wpAnyH_take (i := 48) (v := undef) rfl (by kernel_rfl) (by kernel_rfl) (by kernel_rfl) (fun _ _ _ h => h) (Or.inr ⟨by rfl, rfl⟩) (by assumption) ?_
                    simp only [List.getElem_toArray, List.getElem_cons_succ, List.getElem_cons_zero, Act.put, List.setIfInBounds_toArray, List.set_cons_zero, List.set_cons_succ]
                    refine wpAnyH_take (i := 49) (v := undef) rfl (by kernel_rfl) (by kernel_rfl) (by kernel_rfl) (fun _ _ _ h => h) (Or.inr ⟨by rfl, rfl⟩) (by assumption) ?_
                    simp only [List.getElem_toArray, List.getElem_cons_succ, List.getElem_cons_zero, Act.put, List.setIfInBounds_toArray, List.set_cons_zero, List.set_cons_succ]
                    refine wpAnyH_take (i := 50) (v := undef) rfl (by kernel_rfl) (by kernel_rfl) (by kernel_rfl) (fun _ _ _ h => h) (Or.inr ⟨by rfl, rfl⟩) (by assumption) ?_
                    simp only [List.getElem_toArray, List.getElem_cons_succ, List.getElem_cons_zero, Act.put, List.setIfInBounds_toArray, List.set_cons_zero, List.set_cons_succ]
                    refine wpAnyH_take (i := 51) (v := undef) rfl (by kernel_rfl) (by kernel_rfl) (by kernel_rfl) (fun _ _ _ h => h) (Or.inr ⟨by rfl, rfl⟩) (by assumption) ?_
                    simp only [List.getElem_toArray, List.getElem_cons_succ, List.getElem_cons_zero, Act.put, List.setIfInBounds_toArray, List.set_cons_zero, List.set_cons_succ]
                    refine wpAnyH_take (i := 52) (v := undef) rfl (by kernel_rfl) (by kernel_rfl) (by kernel_rfl) (fun _ _ _ h => h) (Or.inr ⟨by rfl, rfl⟩) (by assumption) ?_
                    simp only [List.getElem_toArray, List.getElem_cons_succ, List.getElem_cons_zero, Act.put, List.setIfInBounds_toArray, List.set_cons_zero, List.set_cons_succ]
                    refine wpAnyH_take (i := 53) (v := undef) rfl (by kernel_rfl) (by kernel_rfl) (by kernel_rfl) (fun _ _ _ h => h) (Or.inr ⟨by rfl, rfl⟩) (by assumption) ?_
                    simp only [List.getElem_toArray, List.getElem_cons_succ, List.getElem_cons_zero, Act.put, List.setIfInBounds_toArray, List.set_cons_zero, List.set_cons_succ]
                    refine wpAnyH_take (i := 54) (v := undef) rfl (by kernel_rfl) (by kernel_rfl) (by kernel_rfl) (fun _ _ _ h => h) (Or.inr ⟨by rfl, rfl⟩) (by assumption) ?_
                    simp only [List.getElem_toArray, List.getElem_cons_succ, List.getElem_cons_zero, Act.put, List.setIfInBounds_toArray, List.set_cons_zero, List.set_cons_succ]
                    refine wpAnyH_take (i := 55) (v := .bool false) rfl (by kernel_rfl) (by kernel_rfl) (by kernel_rfl) (fun _ _ _ h => h) (Or.inl ⟨by rfl, fun w hSw => by obtain ⟨hS1, hS2⟩ := hSw; go_simp⟩) (by assumption) ?_
                    simp only [List.getElem_toArray, List.getElem_cons_succ, List.getElem_cons_zero, Act.put, List.setIfInBounds_toArray, List.set_cons_zero, List.set_cons_succ]
                    refine wpAnyH_take (i := 56) (v := .bool false) rfl (by kernel_rfl) (by kernel_rfl) (by kernel_rfl) (fun _ _ _ h => h) (Or.inl ⟨by rfl, fun w hSw => by obtain ⟨hS1, hS2⟩ := hSw; go_simp⟩) (by assumption) ?_
                    simp only [List.getElem_toArray, List.getElem_cons_succ, List.getElem_cons_zero, Act.put, List.setIfInBounds_toArray, List.set_cons_zero, List.set_cons_succ]
                    refine wpAnyH_done (by kernel_rfl) ?_ _
                    have HGZ : Hid (Gs w wd S p gl gm V' D gL i ks BO gO co us ((List.range i).map (sectK TX ks)) gF rV gT L TX i) := hide (HJ.out.below hx4)
                    clear hHeld hJ1 hJ2 hJ3 hJ4 HJ HSS HSO
                    go_wp2
                    go_roundw
                    case rel => exact ⟨j + 1, by omega, by omega, by go_num, HGZ⟩
                    case measure => simp [intOf]; omega
                · have hl1I : ¬ (P1 : Int) < (i : Int) := by omega
                  have hnk : nxK ks P = 0 := by
                    unfold nxK
                    rw [List.getD_eq_getElem?_getD, List.getElem?_eq_none (by rw [HKL.out]; have := HP1.out; omega)]
                    rfl
                  have hxor : bits .xor .i64 0 256 = 256 := by decide
                  have h655 : IntKind.i64.wrap 65536 = 65536 := by decide
                  have HD3 : Hid (decide (SoundP (sectK TX ks P) (shaOf TX) (L : Int) (P : Int) 256) = false) := hide (unhide HON _ _ (Or.inr (by rw [hnk]; decide)))
                  have HD4 : Hid (decide (SoundP (sectK TX ks P) (shaOf TX) (L : Int) (P : Int) 65536) = false) := hide (unhide HON _ _ (Or.inr (by rw [hnk]; decide)))
                  have HD5 : Hid (256 ≤ P → decide (SoundP (sectK TX ks P) (shaOf TX) (L : Int) (Ps : Int) 0) = false) := hide (fun hge => unhide HON _ _ (Or.inl (by have := HPS.out; omega)))
                  rw [hnk] at HSN HD2
                  have HD1 := HSN
                  clear hnk HON HSN
                  by_cases hge : 256 ≤ P
                  · have hgeI : (256 : Int) ≤ (P : Int) := by omega
                    have ePs : IntKind.i64.wrap ((P : Int) - 256) = (Ps : Int) := by rw [IntKind.wrap_i64]; have := HPS.out; omega
                    replace HD5 := hide (HD5.out hge)
                    go_wp2_with fail
                    refine (unhide HWP _).mono ?_
                    rintro e wn ⟨rfl, hwn⟩
                    obtain rfl := hwn.symm
                    clear hwn HWP
                    go_wp2_with fail
                    have hx0 : Below wr.heap.size wr wr.drew := (Below.refl _ _).drew
                    refine wp_region_held_drew (S := fun W => W.cell? ⟨gO, P, none⟩ = some (.slice ra 512 rc) ∧ W.rangeAt gF 0 rV) (by kernel_rfl) (unhide HSS _ hx0) (fun hHeld => ?_)
                    refine wpAnyH_take (i := 0) (v := .slice (some ⟨gO, 0, none⟩) i co) rfl (by kernel_rfl) (by kernel_rfl) (by kernel_rfl) (fun _ _ _ h => h) (Or.inl ⟨by rfl, fun w hSw => by obtain ⟨hS1, hS2⟩ := hSw; go_simp⟩) (by assumption) ?_
                    simp only [List.getElem_toArray, List.getElem_cons_zero, Act.put, List.setIfInBounds_toArray, List.set_cons_zero, List.set_cons_succ]
                    refine wpAnyH_take (i := 1) (v := .int .i64 (P : Int)) rfl (by kernel_rfl) (by kernel_rfl) (by kernel_rfl) (fun _ _ _ h => h) (Or.inl ⟨by rfl, fun w hSw => by obtain ⟨hS1, hS2⟩ := hSw; go_simp⟩) (by assumption) ?_
                    simp only [List.getElem_toArray, List.getElem_cons_succ, List.getElem_cons_zero, Act.put, List.setIfInBounds_toArray, List.set_cons_zero, List.set_cons_succ]
                    refine wpAnyH_take (i := 2) (v := .pointer (some ⟨gO, P, none⟩)) rfl (by kernel_rfl) (by kernel_rfl) (by kernel_rfl) (fun _ _ _ h => h) (Or.inl ⟨by rfl, fun w hSw => by obtain ⟨hS1, hS2⟩ := hSw; go_simp⟩) (by assumption) ?_
                    simp only [List.getElem_toArray, List.getElem_cons_succ, List.getElem_cons_zero, Act.put, List.setIfInBounds_toArray, List.set_cons_zero, List.set_cons_succ]
                    refine wpAnyH_take (i := 3) (v := .slice (ra) 512 rc) rfl (by kernel_rfl) (by kernel_rfl) (by kernel_rfl) (fun _ _ _ h => h) (Or.inl ⟨by rfl, fun w hSw => by obtain ⟨hS1, hS2⟩ := hSw; go_simp⟩) (by assumption) ?_
                    simp only [List.getElem_toArray, List.getElem_cons_succ, List.getElem_cons_zero, Act.put, List.setIfInBounds_toArray, List.set_cons_zero, List.set_cons_succ]
                    refine wpAnyH_take (i := 4) (v := .agg (rV).toArray) rfl (by kernel_rfl) (by kernel_rfl) (by kernel_rfl) (fun _ _ _ h => h) (yieldsIf_load_mid (by rfl) _ _ rfl _ _ rfl _ _ (fun w hSw => hSw.2) Tryd.underlying26 rfl hiR) (by assumption) ?_
                    simp only [List.getElem_toArray, List.getElem_cons_succ, List.getElem_cons_zero, Act.put, List.setIfInBounds_toArray, List.set_cons_zero, List.set_cons_succ]
                    refine wpAnyH_take (i := 5) (v := .int .i64 (P : Int)) rfl (by kernel_rfl) (by kernel_rfl) (by kernel_rfl) (fun _ _ _ h => h) (Or.inl ⟨by rfl, fun w hSw => by obtain ⟨hS1, hS2⟩ := hSw; go_simp⟩) (by assumption) ?_
                    simp only [List.getElem_toArray, List.getElem_cons_succ, List.getElem_cons_zero, Act.put, List.setIfInBounds_toArray, List.set_cons_zero, List.set_cons_succ]
                    refine wpAnyH_take (i := 6) (v := .int .i64 0) rfl (by kernel_rfl) (by kernel_rfl) (by kernel_rfl) (fun _ _ _ h => h) (Or.inl ⟨by rfl, fun w hSw => by obtain ⟨hS1, hS2⟩ := hSw; go_simp⟩) (by assumption) ?_
                    simp only [List.getElem_toArray, List.getElem_cons_succ, List.getElem_cons_zero, Act.put, List.setIfInBounds_toArray, List.set_cons_zero, List.set_cons_succ]
                    refine wpAnyH_ready (rs := [7]) (by kernel_rfl) (by simp) (AllReadyH.cons rfl (fun K hK => ?_) AllReadyH.nil)
                    refine step_call4C (by rfl) 9 sound_enter6 (.tmp 198) (.tmp 199) (.tmp 200) (.tmp 201) _ rfl rfl rfl rfl rfl (unhide HSO _ _ _ _ hx0 HD1.out) ?_
                    rintro e wa ⟨rfl, hbwa⟩
                    have hx1 : Below wr.heap.size wr wa := hx0.trans (hbwa.mono hx0.size)
                    refine ⟨_, rfl, ?_⟩
                    refine hK.out _ _ (unhide HSS _ hx1) (fun hJ1 => ?_)
                    clear hK K
                    simp only [List.getElem_toArray, List.getElem_cons_succ, List.getElem_cons_zero, Act.put, List.setIfInBounds_toArray, List.set_cons_zero, List.set_cons_succ]
                    refine wpAnyH_take (i := 8) (v := .bool false) rfl (by kernel_rfl) (by kernel_rfl) (by kernel_rfl) (fun _ _ _ h => h) (Or.inl ⟨by rfl, fun w hSw => by obtain ⟨hS1, hS2⟩ := hSw; go_simp⟩) (by assumption) ?_
                    simp only [List.getElem_toArray, List.getElem_cons_succ, List.getElem_cons_zero, Act.put, List.setIfInBounds_toArray, List.set_cons_zero, List.set_cons_succ]
                    refine wpAnyH_take (i := 9) (v := .bool false) rfl (by kernel_rfl) (by kernel_rfl) (by kernel_rfl) (fun _ _ _ h => h) (Or.inl ⟨by rfl, fun w hSw => by obtain ⟨hS1, hS2⟩ := hSw; go_simp⟩) (by assumption) ?_
                    simp only [List.getElem_toArray, List.getElem_cons_succ, List.getElem_cons_zero, Act.put, List.setIfInBounds_toArray, List.set_cons_zero, List.set_cons_succ]
                    refine wpAnyH_take (i := 10) (v := .slice (some ⟨gO, 0, none⟩) i co) rfl (by kernel_rfl) (by kernel_rfl) (by kernel_rfl) (fun _ _ _ h => h) (Or.inl ⟨by rfl, fun w hSw => by obtain ⟨hS1, hS2⟩ := hSw; go_simp⟩) (by assumption) ?_
                    simp only [List.getElem_toArray, List.getElem_cons_succ, List.getElem_cons_zero, Act.put, List.setIfInBounds_toArray, List.set_cons_zero, List.set_cons_succ]
                    refine wpAnyH_take (i := 11) (v := .int .i64 (P : Int)) rfl (by kernel_rfl) (by kernel_rfl) (by kernel_rfl) (fun _ _ _ h => h) (Or.inl ⟨by rfl, fun w hSw => by obtain ⟨hS1, hS2⟩ := hSw; go_simp⟩) (by assumption) ?_
                    simp only [List.getElem_toArray, List.getElem_cons_succ, List.getElem_cons_zero, Act.put, List.setIfInBounds_toArray, List.set_cons_zero, List.set_cons_succ]
                    refine wpAnyH_take (i := 12) (v := .pointer (some ⟨gO, P, none⟩)) rfl (by kernel_rfl) (by kernel_rfl) (by kernel_rfl) (fun _ _ _ h => h) (Or.inl ⟨by rfl, fun w hSw => by obtain ⟨hS1, hS2⟩ := hSw; go_simp⟩) (by assumption) ?_
                    simp only [List.getElem_toArray, List.getElem_cons_succ, List.getElem_cons_zero, Act.put, List.setIfInBounds_toArray, List.set_cons_zero, List.set_cons_succ]
                    refine wpAnyH_take (i := 13) (v := .slice (ra) 512 rc) rfl (by kernel_rfl) (by kernel_rfl) (by kernel_rfl) (fun _ _ _ h => h) (Or.inl ⟨by rfl, fun w hSw => by obtain ⟨hS1, hS2⟩ := hSw; go_simp⟩) (by assumption) ?_
                    simp only [List.getElem_toArray, List.getElem_cons_succ, List.getElem_cons_zero, Act.put, List.setIfInBounds_toArray, List.set_cons_zero, List.set_cons_succ]
                    refine wpAnyH_take (i := 14) (v := .agg (rV).toArray) rfl (by kernel_rfl) (by kernel_rfl) (by kernel_rfl) (fun _ _ _ h => h) (yieldsIf_load_mid (by rfl) _ _ rfl _ _ rfl _ _ (fun w hSw => hSw.2) Tryd.underlying26 rfl hiR) (by assumption) ?_
                    simp only [List.getElem_toArray, List.getElem_cons_succ, List.getElem_cons_zero, Act.put, List.setIfInBounds_toArray, List.set_cons_zero, List.set_cons_succ]
                    refine wpAnyH_take (i := 15) (v := .int .i64 (P : Int)) rfl (by kernel_rfl) (by kernel_rfl) (by kernel_rfl) (fun _ _ _ h => h) (Or.inl ⟨by rfl, fun w hSw => by obtain ⟨hS1, hS2⟩ := hSw; go_simp⟩) (by assumption) ?_
                    simp only [List.getElem_toArray, List.getElem_cons_succ, List.getElem_cons_zero, Act.put, List.setIfInBounds_toArray, List.set_cons_zero, List.set_cons_succ]
                    refine wpAnyH_take (i := 16) (v := .int .i64 (Pa : Int)) rfl (by kernel_rfl) (by kernel_rfl) (by kernel_rfl) (fun _ _ _ h => h) (Or.inl ⟨by rfl, fun w hSw => by obtain ⟨hS1, hS2⟩ := hSw; go_simp⟩) (by assumption) ?_
                    simp only [List.getElem_toArray, List.getElem_cons_succ, List.getElem_cons_zero, Act.put, List.setIfInBounds_toArray, List.set_cons_zero, List.set_cons_succ]
                    refine wpAnyH_take (i := 17) (v := .int .i64 0) rfl (by kernel_rfl) (by kernel_rfl) (by kernel_rfl) (fun _ _ _ h => h) (Or.inl ⟨by rfl, fun w hSw => by obtain ⟨hS1, hS2⟩ := hSw; go_simp⟩) (by assumption) ?_
                    simp only [List.getElem_toArray, List.getElem_cons_succ, List.getElem_cons_zero, Act.put, List.setIfInBounds_toArray, List.set_cons_zero, List.set_cons_succ]
                    refine wpAnyH_ready (rs := [18]) (by kernel_rfl) (by simp) (AllReadyH.cons rfl (fun K hK => ?_) AllReadyH.nil)
                    refine step_call4GC (by rfl) 9 sound_enter6 (.tmp 208) (.tmp 209) (.tmp 211) (.tmp 212) _ rfl rfl rfl rfl rfl (unhide HSO _ _ _ _ hx1 HD2.out) ?_
                    rintro e wb ⟨rfl, hbwb⟩
                    have hx2 : Below wr.heap.size wr wb := hx1.trans (hbwb.mono hx1.size)
                    refine ⟨_, rfl, ?_⟩
                    refine hK.out _ _ (unhide HSS _ hx2) (fun hJ2 => ?_)
                    clear hK K
                    simp only [List.getElem_toArray, List.getElem_cons_succ, List.getElem_cons_zero, Act.put, List.setIfInBounds_toArray, List.set_cons_zero, List.set_cons_succ]
                    refine wpAnyH_take (i := 19) (v := .bool false) rfl (by kernel_rfl) (by kernel_rfl) (by kernel_rfl) (fun _ _ _ h => h) (Or.inl ⟨by rfl, fun w hSw => by obtain ⟨hS1, hS2⟩ := hSw; go_simp⟩) (by assumption) ?_
                    simp only [List.getElem_toArray, List.getElem_cons_succ, List.getElem_cons_zero, Act.put, List.setIfInBounds_toArray, List.set_cons_zero, List.set_cons_succ]
                    refine wpAnyH_take (i := 20) (v := .bool false) rfl (by kernel_rfl) (by kernel_rfl) (by kernel_rfl) (fun _ _ _ h => h) (Or.inl ⟨by rfl, fun w hSw => by obtain ⟨hS1, hS2⟩ := hSw; go_simp⟩) (by assumption) ?_
                    simp only [List.getElem_toArray, List.getElem_cons_succ, List.getElem_cons_zero, Act.put, List.setIfInBounds_toArray, List.set_cons_zero, List.set_cons_succ]
                    refine wpAnyH_take (i := 21) (v := .slice (some ⟨gO, 0, none⟩) i co) rfl (by kernel_rfl) (by kernel_rfl) (by kernel_rfl) (fun _ _ _ h => h) (Or.inl ⟨by rfl, fun w hSw => by obtain ⟨hS1, hS2⟩ := hSw; go_simp⟩) (by assumption) ?_
                    simp only [List.getElem_toArray, List.getElem_cons_succ, List.getElem_cons_zero, Act.put, List.setIfInBounds_toArray, List.set_cons_zero, List.set_cons_succ]
                    refine wpAnyH_take (i := 22) (v := .int .i64 (P : Int)) rfl (by kernel_rfl) (by kernel_rfl) (by kernel_rfl) (fun _ _ _ h => h) (Or.inl ⟨by rfl, fun w hSw => by obtain ⟨hS1, hS2⟩ := hSw; go_simp⟩) (by assumption) ?_
                    simp only [List.getElem_toArray, List.getElem_cons_succ, List.getElem_cons_zero, Act.put, List.setIfInBounds_toArray, List.set_cons_zero, List.set_cons_succ]
                    refine wpAnyH_take (i := 23) (v := .pointer (some ⟨gO, P, none⟩)) rfl (by kernel_rfl) (by kernel_rfl) (by kernel_rfl) (fun _ _ _ h => h) (Or.inl ⟨by rfl, fun w hSw => by obtain ⟨hS1, hS2⟩ := hSw; go_simp⟩) (by assumption) ?_
                    simp only [List.getElem_toArray, List.getElem_cons_succ, List.getElem_cons_zero, Act.put, List.setIfInBounds_toArray, List.set_cons_zero, List.set_cons_succ]
                    refine wpAnyH_take (i := 24) (v := .slice (ra) 512 rc) rfl (by kernel_rfl) (by kernel_rfl) (by kernel_rfl) (fun _ _ _ h => h) (Or.inl ⟨by rfl, fun w hSw => by obtain ⟨hS1, hS2⟩ := hSw; go_simp⟩) (by assumption) ?_
                    simp only [List.getElem_toArray, List.getElem_cons_succ, List.getElem_cons_zero, Act.put, List.setIfInBounds_toArray, List.set_cons_zero, List.set_cons_succ]
                    refine wpAnyH_take (i := 25) (v := .agg (rV).toArray) rfl (by kernel_rfl) (by kernel_rfl) (by kernel_rfl) (fun _ _ _ h => h) (yieldsIf_load_mid (by rfl) _ _ rfl _ _ rfl _ _ (fun w hSw => hSw.2) Tryd.underlying26 rfl hiR) (by assumption) ?_
                    simp only [List.getElem_toArray, List.getElem_cons_succ, List.getElem_cons_zero, Act.put, List.setIfInBounds_toArray, List.set_cons_zero, List.set_cons_succ]
                    refine wpAnyH_take (i := 26) (v := .int .i64 (P : Int)) rfl (by kernel_rfl) (by kernel_rfl) (by kernel_rfl) (fun _ _ _ h => h) (Or.inl ⟨by rfl, fun w hSw => by obtain ⟨hS1, hS2⟩ := hSw; go_simp⟩) (by assumption) ?_
                    simp only [List.getElem_toArray, List.getElem_cons_succ, List.getElem_cons_zero, Act.put, List.setIfInBounds_toArray, List.set_cons_zero, List.set_cons_succ]
                    refine wpAnyH_take (i := 27) (v := .int .i64 0) rfl (by kernel_rfl) (by kernel_rfl) (by kernel_rfl) (fun _ _ _ h => h) (Or.inl ⟨by rfl, fun w hSw => by obtain ⟨hS1, hS2⟩ := hSw; go_simp⟩) (by assumption) ?_
                    simp only [List.getElem_toArray, List.getElem_cons_succ, List.getElem_cons_zero, Act.put, List.setIfInBounds_toArray, List.set_cons_zero, List.set_cons_succ]
                    refine wpAnyH_take (i := 28) (v := .int .i64 256) rfl (by kernel_rfl) (by kernel_rfl) (by kernel_rfl) (fun _ _ _ h => h) (Or.inl ⟨by rfl, fun w hSw => by obtain ⟨hS1, hS2⟩ := hSw; go_simp⟩) (by assumption) ?_
                    simp only [List.getElem_toArray, List.getElem_cons_succ, List.getElem_cons_zero, Act.put, List.setIfInBounds_toArray, List.set_cons_zero, List.set_cons_succ]
                    refine wpAnyH_ready (rs := [29]) (by kernel_rfl) (by simp) (AllReadyH.cons rfl (fun K hK => ?_) AllReadyH.nil)
                    refine step_call4GC (by rfl) 9 sound_enter6 (.tmp 219) (.tmp 220) (.tmp 221) (.tmp 223) _ rfl rfl rfl rfl rfl (unhide HSO _ _ _ _ hx2 HD3.out) ?_
                    rintro e wc ⟨rfl, hbwc⟩
                    have hx3 : Below wr.heap.size wr wc := hx2.trans (hbwc.mono hx2.size)
                    refine ⟨_, rfl, ?_⟩
                    refine hK.out _ _ (unhide HSS _ hx3) (fun hJ3 => ?_)
                    clear hK K
                    simp only [List.getElem_toArray, List.getElem_cons_succ, List.getElem_cons_zero, Act.put, List.setIfInBounds_toArray, List.set_cons_zero, List.set_cons_succ]
                    refine wpAnyH_take (i := 30) (v := .bool false) rfl (by kernel_rfl) (by kernel_rfl) (by kernel_rfl) (fun _ _ _ h => h) (Or.inl ⟨by rfl, fun w hSw => by obtain ⟨hS1, hS2⟩ := hSw; go_simp⟩) (by assumption) ?_
                    simp only [List.getElem_toArray, List.getElem_cons_succ, List.getElem_cons_zero, Act.put, List.setIfInBounds_toArray, List.set_cons_zero, List.set_cons_succ]
                    refine wpAnyH_take (i := 31) (v := .bool false) rfl (by kernel_rfl) (by kernel_rfl) (by kernel_rfl) (fun _ _ _ h => h) (Or.inl ⟨by rfl, fun w hSw => by obtain ⟨hS1, hS2⟩ := hSw; go_simp⟩) (by assumption) ?_
                    simp only [List.getElem_toArray, List.getElem_cons_succ, List.getElem_cons_zero, Act.put, List.setIfInBounds_toArray, List.set_cons_zero, List.set_cons_succ]
                    refine wpAnyH_take (i := 32) (v := .slice (some ⟨gO, 0, none⟩) i co) rfl (by kernel_rfl) (by kernel_rfl) (by kernel_rfl) (fun _ _ _ h => h) (Or.inl ⟨by rfl, fun w hSw => by obtain ⟨hS1, hS2⟩ := hSw; go_simp⟩) (by assumption) ?_
                    simp only [List.getElem_toArray, List.getElem_cons_succ, List.getElem_cons_zero, Act.put, List.setIfInBounds_toArray, List.set_cons_zero, List.set_cons_succ]
                    refine wpAnyH_take (i := 33) (v := .int .i64 (P : Int)) rfl (by kernel_rfl) (by kernel_rfl) (by kernel_rfl) (fun _ _ _ h => h) (Or.inl ⟨by rfl, fun w hSw => by obtain ⟨hS1, hS2⟩ := hSw; go_simp⟩) (by assumption) ?_
                    simp only [List.getElem_toArray, List.getElem_cons_succ, List.getElem_cons_zero, Act.put, List.setIfInBounds_toArray, List.set_cons_zero, List.set_cons_succ]
                    refine wpAnyH_take (i := 34) (v := .pointer (some ⟨gO, P, none⟩)) rfl (by kernel_rfl) (by kernel_rfl) (by kernel_rfl) (fun _ _ _ h => h) (Or.inl ⟨by rfl, fun w hSw => by obtain ⟨hS1, hS2⟩ := hSw; go_simp⟩) (by assumption) ?_
                    simp only [List.getElem_toArray, List.getElem_cons_succ, List.getElem_cons_zero, Act.put, List.setIfInBounds_toArray, List.set_cons_zero, List.set_cons_succ]
                    refine wpAnyH_take (i := 35) (v := .slice (ra) 512 rc) rfl (by kernel_rfl) (by kernel_rfl) (by kernel_rfl) (fun _ _ _ h => h) (Or.inl ⟨by rfl, fun w hSw => by obtain ⟨hS1, hS2⟩ := hSw; go_simp⟩) (by assumption) ?_
                    simp only [List.getElem_toArray, List.getElem_cons_succ, List.getElem_cons_zero, Act.put, List.setIfInBounds_toArray, List.set_cons_zero, List.set_cons_succ]
                    refine wpAnyH_take (i := 36) (v := .agg (rV).toArray) rfl (by kernel_rfl) (by kernel_rfl) (by kernel_rfl) (fun _ _ _ h => h) (yieldsIf_load_mid (by rfl) _ _ rfl _ _ rfl _ _ (fun w hSw => hSw.2) Tryd.underlying26 rfl hiR) (by assumption) ?_
                    simp only [List.getElem_toArray, List.getElem_cons_succ, List.getElem_cons_zero, Act.put, List.setIfInBounds_toArray, List.set_cons_zero, List.set_cons_succ]
                    refine wpAnyH_take (i := 37) (v := .int .i64 (P : Int)) rfl (by kernel_rfl) (by kernel_rfl) (by kernel_rfl) (fun _ _ _ h => h) (Or.inl ⟨by rfl, fun w hSw => by obtain ⟨hS1, hS2⟩ := hSw; go_simp⟩) (by assumption) ?_
                    simp only [List.getElem_toArray, List.getElem_cons_succ, List.getElem_cons_zero, Act.put, List.setIfInBounds_toArray, List.set_cons_zero, List.set_cons_succ]
                    refine wpAnyH_take (i := 38) (v := .int .i64 0) rfl (by kernel_rfl) (by kernel_rfl) (by kernel_rfl) (fun _ _ _ h => h) (Or.inl ⟨by rfl, fun w hSw => by obtain ⟨hS1, hS2⟩ := hSw; go_simp⟩) (by assumption) ?_
                    simp only [List.getElem_toArray, List.getElem_cons_succ, List.getElem_cons_zero, Act.put, List.setIfInBounds_toArray, List.set_cons_zero, List.set_cons_succ]
                    refine wpAnyH_take (i := 39) (v := .int .i64 65536) rfl (by kernel_rfl) (by kernel_rfl) (by kernel_rfl) (fun _ _ _ h => h) (Or.inl ⟨by rfl, fun w hSw => by obtain ⟨hS1, hS2⟩ := hSw; go_simp⟩) (by assumption) ?_
                    simp only [List.getElem_toArray, List.getElem_cons_succ, List.getElem_cons_zero, Act.put, List.setIfInBounds_toArray, List.set_cons_zero, List.set_cons_succ]
                    refine wpAnyH_ready (rs := [40]) (by kernel_rfl) (by simp) (AllReadyH.cons rfl (fun K hK => ?_) AllReadyH.nil)
                    refine step_call4GC (by rfl) 9 sound_enter6 (.tmp 230) (.tmp 231) (.tmp 232) (.tmp 234) _ rfl rfl rfl rfl rfl (unhide HSO _ _ _ _ hx3 HD4.out) ?_
                    rintro e wd ⟨rfl, hbwd⟩
                    have hx4 : Below wr.heap.size wr wd := hx3.trans (hbwd.mono hx3.size)
                    refine ⟨_, rfl, ?_⟩
                    refine hK.out _ _ (unhide HSS _ hx4) (fun hJ4 => ?_)
                    clear hK K
                    simp only [List.getElem_toArray, List.getElem_cons_succ, List.getElem_cons_zero, Act.put, List.setIfInBounds_toArray, List.set_cons_zero, List.set_cons_succ]
                    refine wpAnyH_take (i := 41) (v := .bool false) rfl (by kernel_rfl) (by kernel_rfl) (by kernel_rfl) (fun _ _ _ h => h) (Or.inl ⟨by rfl, fun w hSw => by obtain ⟨hS1, hS2⟩ := hSw; go_simp⟩) (by assumption) ?_
                    simp only [List.getElem_toArray, List.getElem_cons_succ, List.getElem_cons_zero, Act.put, List.setIfInBounds_toArray, List.set_cons_zero, List.set_cons_succ]
                    refine wpAnyH_take (i := 42) (v := .bool false) rfl (by kernel_rfl) (by kernel_rfl) (by kernel_rfl) (fun _ _ _ h => h) (Or.inl ⟨by rfl, fun w hSw => by obtain ⟨hS1, hS2⟩ := hSw; go_simp⟩) (by assumption) ?_
                    simp only [List.getElem_toArray, List.getElem_cons_succ, List.getElem_cons_zero, Act.put, List.setIfInBounds_toArray, List.set_cons_zero, List.set_cons_succ]
                    refine wpAnyH_take (i := 43) (v := .int .i64 (P : Int)) rfl (by kernel_rfl) (by kernel_rfl) (by kernel_rfl) (fun _ _ _ h => h) (Or.inl ⟨by rfl, fun w hSw => by obtain ⟨hS1, hS2⟩ := hSw; go_simp⟩) (by assumption) ?_
                    simp only [List.getElem_toArray, List.getElem_cons_succ, List.getElem_cons_zero, Act.put, List.setIfInBounds_toArray, List.set_cons_zero, List.set_cons_succ]
                    refine wpAnyH_take (i := 44) (v := .bool true) rfl (by kernel_rfl) (by kernel_rfl) (by kernel_rfl) (fun _ _ _ h => h) (Or.inl ⟨by rfl, fun w hSw => by obtain ⟨hS1, hS2⟩ := hSw; go_simp⟩) (by assumption) ?_
                    simp only [List.getElem_toArray, List.getElem_cons_succ, List.getElem_cons_zero, Act.put, List.setIfInBounds_toArray, List.set_cons_zero, List.set_cons_succ]
                    refine wpAnyH_take (i := 45) (v := .bool true) rfl (by kernel_rfl) (by kernel_rfl) (by kernel_rfl) (fun _ _ _ h => h) (Or.inl ⟨by rfl, fun w hSw => by obtain ⟨hS1, hS2⟩ := hSw; go_simp⟩) (by assumption) ?_
                    simp only [List.getElem_toArray, List.getElem_cons_succ, List.getElem_cons_zero, Act.put, List.setIfInBounds_toArray, List.set_cons_zero, List.set_cons_succ]
                    refine wpAnyH_take (i := 46) (v := .slice (some ⟨gO, 0, none⟩) i co) rfl (by kernel_rfl) (by kernel_rfl) (by kernel_rfl) (fun _ _ _ h => h) (Or.inl ⟨by rfl, fun w hSw => by obtain ⟨hS1, hS2⟩ := hSw; go_simp⟩) (by assumption) ?_
                    simp only [List.getElem_toArray, List.getElem_cons_succ, List.getElem_cons_zero, Act.put, List.setIfInBounds_toArray, List.set_cons_zero, List.set_cons_succ]
                    refine wpAnyH_take (i := 47) (v := .int .i64 (P : Int)) rfl (by kernel_rfl) (by kernel_rfl) (by kernel_rfl) (fun _ _ _ h => h) (Or.inl ⟨by rfl, fun w hSw => by obtain ⟨hS1, hS2⟩ := hSw; go_simp⟩) (by assumption) ?_
                    simp only [List.getElem_toArray, List.getElem_cons_succ, List.getElem_cons_zero, Act.put, List.setIfInBounds_toArray, List.set_cons_zero, List.set_cons_succ]
                    refine wpAnyH_take (i := 48) (v := .pointer (some ⟨gO, P, none⟩)) rfl (by kernel_rfl) (by kernel_rfl) (by kernel_rfl) (fun _ _ _ h => h) (Or.inl ⟨by rfl, fun w hSw => by obtain ⟨hS1, hS2⟩ := hSw; go_simp⟩) (by assumption) ?_
                    simp only [List.getElem_toArray, List.getElem_cons_succ, List.getElem_cons_zero, Act.put, List.setIfInBounds_toArray, List.set_cons_zero, List.set_cons_succ]
                    refine wpAnyH_take (i := 49) (v := .slice (ra) 512 rc) rfl (by kernel_rfl) (by kernel_rfl) (by kernel_rfl) (fun _ _ _ h => h) (Or.inl ⟨by rfl, fun w hSw => by obtain ⟨hS1, hS2⟩ := hSw; go_simp⟩) (by assumption) ?_
                    simp only [List.getElem_toArray, List.getElem_cons_succ, List.getElem_cons_zero, Act.put, List.setIfInBounds_toArray, List.set_cons_zero, List.set_cons_succ]
                    refine wpAnyH_take (i := 50) (v := .agg (rV).toArray) rfl (by kernel_rfl) (by kernel_rfl) (by kernel_rfl) (fun _ _ _ h => h) (yieldsIf_load_mid (by rfl) _ _ rfl _ _ rfl _ _ (fun w hSw => hSw.2) Tryd.underlying26 rfl hiR) (by assumption) ?_
                    simp only [List.getElem_toArray, List.getElem_cons_succ, List.getElem_cons_zero, Act.put, List.setIfInBounds_toArray, List.set_cons_zero, List.set_cons_succ]
                    refine wpAnyH_take (i := 51) (v := .int .i64 (P : Int)) rfl (by kernel_rfl) (by kernel_rfl) (by kernel_rfl) (fun _ _ _ h => h) (Or.inl ⟨by rfl, fun w hSw => by obtain ⟨hS1, hS2⟩ := hSw; go_simp⟩) (by assumption) ?_
                    simp only [List.getElem_toArray, List.getElem_cons_succ, List.getElem_cons_zero, Act.put, List.setIfInBounds_toArray, List.set_cons_zero, List.set_cons_succ]
                    refine wpAnyH_take (i := 52) (v := .int .i64 (Ps : Int)) rfl (by kernel_rfl) (by kernel_rfl) (by kernel_rfl) (fun _ _ _ h => h) (Or.inl ⟨by rfl, fun w hSw => by obtain ⟨hS1, hS2⟩ := hSw; go_simp⟩) (by assumption) ?_
                    simp only [List.getElem_toArray, List.getElem_cons_succ, List.getElem_cons_zero, Act.put, List.setIfInBounds_toArray, List.set_cons_zero, List.set_cons_succ]
                    refine wpAnyH_take (i := 53) (v := .int .i64 0) rfl (by kernel_rfl) (by kernel_rfl) (by kernel_rfl) (fun _ _ _ h => h) (Or.inl ⟨by rfl, fun w hSw => by obtain ⟨hS1, hS2⟩ := hSw; go_simp⟩) (by assumption) ?_
                    simp only [List.getElem_toArray, List.getElem_cons_succ, List.getElem_cons_zero, Act.put, List.setIfInBounds_toArray, List.set_cons_zero, List.set_cons_succ]
                    refine wpAnyH_ready (rs := [54]) (by kernel_rfl) (by simp) (AllReadyH.cons rfl (fun K hK => ?_) AllReadyH.nil)
                    refine step_call4GC (by rfl) 9 sound_enter6 (.tmp 244) (.tmp 245) (.tmp 247) (.tmp 248) _ rfl rfl rfl rfl rfl (unhide HSO _ _ _ _ hx4 HD5.out) ?_
                    rintro e we ⟨rfl, hbwe⟩
                    have hx5 : Below wr.heap.size wr we := hx4.trans (hbwe.mono hx4.size)
                    refine ⟨_, rfl, ?_⟩
                    refine hK.out _ _ (unhide HSS _ hx5) (fun hJ5 => ?_)
                    clear hK K
                    simp only [List.getElem_toArray, List.getElem_cons_succ, List.getElem_cons_zero, Act.put, List.setIfInBounds_toArray, List.set_cons_zero, List.set_cons_succ]
                    refine wpAnyH_take (i := 55) (v := .bool false) rfl (by kernel_rfl) (by kernel_rfl) (by kernel_rfl) (fun _ _ _ h => h) (Or.inl ⟨by rfl, fun w hSw => by obtain ⟨hS1, hS2⟩ := hSw; go_simp⟩) (by assumption) ?_
                    simp only [List.getElem_toArray, List.getElem_cons_succ, List.getElem_cons_zero, Act.put, List.setIfInBounds_toArray, List.set_cons_zero, List.set_cons_succ]
                    refine wpAnyH_take (i := 56) (v := .bool false) rfl (by kernel_rfl) (by kernel_rfl) (by kernel_rfl) (fun _ _ _ h => h) (Or.inl ⟨by rfl, fun w hSw => by obtain ⟨hS1, hS2⟩ := hSw; go_simp⟩) (by assumption) ?_
                    simp only [List.getElem_toArray, List.getElem_cons_succ, List.getElem_cons_zero, Act.put, List.setIfInBounds_toArray, List.set_cons_zero, List.set_cons_succ]
                    refine wpAnyH_done (by kernel_rfl) ?_ _
                    have HGZ : Hid (Gs w we S p gl gm V' D gL i ks BO gO co us ((List.range i).map (sectK TX ks)) gF rV gT L TX i) := hide (HJ.out.below hx5)
                    clear hHeld hJ1 hJ2 hJ3 hJ4 hJ5 HJ HSS HSO
                    go_wp2
                    go_roundw
                    case rel => exact ⟨j + 1, by omega, by omega, by go_num, HGZ⟩
                    case measure => simp [intOf]; omega
                  · have hgeI : ¬ (256 : Int) ≤ (P : Int) := by omega
                    go_wp2_with fail
                    refine (unhide HWP _).mono ?_
                    rintro e wn ⟨rfl, hwn⟩
                    obtain rfl := hwn.symm
                    clear hwn HWP
                    go_wp2_with fail
                    have hx0 : Below wr.heap.size wr wr.drew := (Below.refl _ _).drew
                    refine wp_region_held_drew (S := fun W => W.cell? ⟨gO, P, none⟩ = some (.slice ra 512 rc) ∧ W.rangeAt gF 0 rV) (by kernel_rfl) (unhide HSS _ hx0) (fun hHeld => ?_)
                    refine wpAnyH_take (i := 0) (v := .slice (some ⟨gO, 0, none⟩) i co) rfl (by kernel_rfl) (by kernel_rfl) (by kernel_rfl) (fun _ _ _ h => h) (Or.inl ⟨by rfl, fun w hSw => by obtain ⟨hS1, hS2⟩ := hSw; go_simp⟩) (by assumption) ?_
                    simp only [List.getElem_toArray, List.getElem_cons_zero, Act.put, List.setIfInBounds_toArray, List.set_cons_zero, List.set_cons_succ]
                    refine wpAnyH_take (i := 1) (v := .int .i64 (P : Int)) rfl (by kernel_rfl) (by kernel_rfl) (by kernel_rfl) (fun _ _ _ h => h) (Or.inl ⟨by rfl, fun w hSw => by obtain ⟨hS1, hS2⟩ := hSw; go_simp⟩) (by assumption) ?_
                    simp only [List.getElem_toArray, List.getElem_cons_succ, List.getElem_cons_zero, Act.put, List.setIfInBounds_toArray, List.set_cons_zero, List.set_cons_succ]
                    refine wpAnyH_take (i := 2) (v := .pointer (some ⟨gO, P, none⟩)) rfl (by kernel_rfl) (by kernel_rfl) (by kernel_rfl) (fun _ _ _ h => h) (Or.inl ⟨by rfl, fun w hSw => by obtain ⟨hS1, hS2⟩ := hSw; go_simp⟩) (by assumption) ?_
                    simp only [List.getElem_toArray, List.getElem_cons_succ, List.getElem_cons_zero, Act.put, List.setIfInBounds_toArray, List.set_cons_zero, List.set_cons_succ]
                    refine wpAnyH_take (i := 3) (v := .slice (ra) 512 rc) rfl (by kernel_rfl) (by kernel_rfl) (by kernel_rfl) (fun _ _ _ h => h) (Or.inl ⟨by rfl, fun w hSw => by obtain ⟨hS1, hS2⟩ := hSw; go_simp⟩) (by assumption) ?_
                    simp only [List.getElem_toArray, List.getElem_cons_succ, List.getElem_cons_zero, Act.put, List.setIfInBounds_toArray, List.set_cons_zero, List.set_cons_succ]
                    refine wpAnyH_take (i := 4) (v := .agg (rV).toArray) rfl (by kernel_rfl) (by kernel_rfl) (by kernel_rfl) (fun _ _ _ h => h) (yieldsIf_load_mid (by rfl) _ _ rfl _ _ rfl _ _ (fun w hSw => hSw.2) Tryd.underlying26 rfl hiR) (by assumption) ?_
                    simp only [List.getElem_toArray, List.getElem_cons_succ, List.getElem_cons_zero, Act.put, List.setIfInBounds_toArray, List.set_cons_zero, List.set_cons_succ]
                    refine wpAnyH_take (i := 5) (v := .int .i64 (P : Int)) rfl (by kernel_rfl) (by kernel_rfl) (by kernel_rfl) (fun _ _ _ h => h) (Or.inl ⟨by rfl, fun w hSw => by obtain ⟨hS1, hS2⟩ := hSw; go_simp⟩) (by assumption) ?_
                    simp only [List.getElem_toArray, List.getElem_cons_succ, List.getElem_cons_zero, Act.put, List.setIfInBounds_toArray, List.set_cons_zero, List.set_cons_succ]
                    refine wpAnyH_take (i := 6) (v := .int .i64 0) rfl (by kernel_rfl) (by kernel_rfl) (by kernel_rfl) (fun _ _ _ h => h) (Or.inl ⟨by rfl, fun w hSw => by obtain ⟨hS1, hS2⟩ := hSw; go_simp⟩) (by assumption) ?_
                    simp only [List.getElem_toArray, List.getElem_cons_succ, List.getElem_cons_zero, Act.put, List.setIfInBounds_toArray, List.set_cons_zero, List.set_cons_succ]
                    refine wpAnyH_ready (rs := [7]) (by kernel_rfl) (by simp) (AllReadyH.cons rfl (fun K hK => ?_) AllReadyH.nil)
                    refine step_call4C (by rfl) 9 sound_enter6 (.tmp 198) (.tmp 199) (.tmp 200) (.tmp 201) _ rfl rfl rfl rfl rfl (unhide HSO _ _ _ _ hx0 HD1.out) ?_
                    rintro e wa ⟨rfl, hbwa⟩
                    have hx1 : Below wr.heap.size wr wa := hx0.trans (hbwa.mono hx0.size)
                    refine ⟨_, rfl, ?_⟩
                    refine hK.out _ _ (unhide HSS _ hx1) (fun hJ1 => ?_)
                    clear hK K
                    simp only [List.getElem_toArray, List.getElem_cons_succ, List.getElem_cons_zero, Act.put, List.setIfInBounds_toArray, List.set_cons_zero, List.set_cons_succ]
                    refine wpAnyH_take (i := 8) (v := .bool false) rfl (by kernel_rfl) (by kernel_rfl) (by kernel_rfl) (fun _ _ _ h => h) (Or.inl ⟨by rfl, fun w hSw => by obtain ⟨hS1, hS2⟩ := hSw; go_simp⟩) (by assumption) ?_
                    simp only [List.getElem_toArray, List.getElem_cons_succ, List.getElem_cons_zero, Act.put, List.setIfInBounds_toArray, List.set_cons_zero, List.set_cons_succ]
                    refine wpAnyH_take (i := 9) (v := .bool false) rfl (by kernel_rfl) (by kernel_rfl) (by kernel_rfl) (fun _ _ _ h => h) (Or.inl ⟨by rfl, fun w hSw => by obtain ⟨hS1, hS2⟩ := hSw; go_simp⟩) (by assumption) ?_
                    simp only [List.getElem_toArray, List.getElem_cons_succ, List.getElem_cons_zero, Act.put, List.setIfInBounds_toArray, List.set_cons_zero, List.set_cons_succ]
                    refine wpAnyH_take (i := 10) (v := .slice (some ⟨gO, 0, none⟩) i co) rfl (by kernel_rfl) (by kernel_rfl) (by kernel_rfl) (fun _ _ _ h => h) (Or.inl ⟨by rfl, fun w hSw => by obtain ⟨hS1, hS2⟩ := hSw; go_simp⟩) (by assumption) ?_
                    simp only [List.getElem_toArray, List.getElem_cons_succ, List.getElem_cons_zero, Act.put, List.setIfInBounds_toArray, List.set_cons_zero, List.set_cons_succ]
                    refine wpAnyH_take (i := 11) (v := .int .i64 (P : Int)) rfl (by kernel_rfl) (by kernel_rfl) (by kernel_rfl) (fun _ _ _ h => h) (Or.inl ⟨by rfl, fun w hSw => by obtain ⟨hS1, hS2⟩ := hSw; go_simp⟩) (by assumption) ?_
                    simp only [List.getElem_toArray, List.getElem_cons_succ, List.getElem_cons_zero, Act.put, List.setIfInBounds_toArray, List.set_cons_zero, List.set_cons_succ]
                    refine wpAnyH_take (i := 12) (v := .pointer (some ⟨gO, P, none⟩)) rfl (by kernel_rfl) (by kernel_rfl) (by kernel_rfl) (fun _ _ _ h => h) (Or.inl ⟨by rfl, fun w hSw => by obtain ⟨hS1, hS2⟩ := hSw; go_simp⟩) (by assumption) ?_
                    simp only [List.getElem_toArray, List.getElem_cons_succ, List.getElem_cons_zero, Act.put, List.setIfInBounds_toArray, List.set_cons_zero, List.set_cons_succ]
                    refine wpAnyH_take (i := 13) (v := .slice (ra) 512 rc) rfl (by kernel_rfl) (by kernel_rfl) (by kernel_rfl) (fun _ _ _ h => h) (Or.inl ⟨by rfl, fun w hSw => by obtain ⟨hS1, hS2⟩ := hSw; go_simp⟩) (by assumption) ?_
                    simp only [List.getElem_toArray, List.getElem_cons_succ, List.getElem_cons_zero, Act.put, List.setIfInBounds_toArray, List.set_cons_zero, List.set_cons_succ]
                    refine wpAnyH_take (i := 14) (v := .agg (rV).toArray) rfl (by kernel_rfl) (by kernel_rfl) (by kernel_rfl) (fun _ _ _ h => h) (yieldsIf_load_mid (by rfl) _ _ rfl _ _ rfl _ _ (fun w hSw => hSw.2) Tryd.underlying26 rfl hiR) (by assumption) ?_
                    simp only [List.getElem_toArray, List.getElem_cons_succ, List.getElem_cons_zero, Act.put, List.setIfInBounds_toArray, List.set_cons_zero, List.set_cons_succ]
                    refine wpAnyH_take (i := 15) (v := .int .i64 (P : Int)) rfl (by kernel_rfl) (by kernel_rfl) (by kernel_rfl) (fun _ _ _ h => h) (Or.inl ⟨by rfl, fun w hSw => by obtain ⟨hS1, hS2⟩ := hSw; go_simp⟩) (by assumption) ?_
                    simp only [List.getElem_toArray, List.getElem_cons_succ, List.getElem_cons_zero, Act.put, List.setIfInBounds_toArray, List.set_cons_zero, List.set_cons_succ]
                    refine wpAnyH_take (i := 16) (v := .int .i64 (Pa : Int)) rfl (by kernel_rfl) (by kernel_rfl) (by kernel_rfl) (fun _ _ _ h => h) (Or.inl ⟨by rfl, fun w hSw => by obtain ⟨hS1, hS2⟩ := hSw; go_simp⟩) (by assumption) ?_
                    simp only [List.getElem_toArray, List.getElem_cons_succ, List.getElem_cons_zero, Act.put, List.setIfInBounds_toArray, List.set_cons_zero, List.set_cons_succ]
                    refine wpAnyH_take (i := 17) (v := .int .i64 0) rfl (by kernel_rfl) (by kernel_rfl) (by kernel_rfl) (fun _ _ _ h => h) (Or.inl ⟨by rfl, fun w hSw => by obtain ⟨hS1, hS2⟩ := hSw; go_simp⟩) (by assumption) ?_
                    simp only [List.getElem_toArray, List.getElem_cons_succ, List.getElem_cons_zero, Act.put, List.setIfInBounds_toArray, List.set_cons_zero, List.set_cons_succ]
                    refine wpAnyH_ready (rs := [18]) (by kernel_rfl) (by simp) (AllReadyH.cons rfl (fun K hK => ?_) AllReadyH.nil)
                    refine step_call4GC (by rfl) 9 sound_enter6 (.tmp 208) (.tmp 209) (.tmp 211) (.tmp 212) _ rfl rfl rfl rfl rfl (unhide HSO _ _ _ _ hx1 HD2.out) ?_
                    rintro e wb ⟨rfl, hbwb⟩
                    have hx2 : Below wr.heap.size wr wb := hx1.trans (hbwb.mono hx1.size)
                    refine ⟨_, rfl, ?_⟩
                    refine hK.out _ _ (unhide HSS _ hx2) (fun hJ2 => ?_)
                    clear hK K
                    simp only [List.getElem_toArray, List.getElem_cons_succ, List.getElem_cons_zero, Act.put, List.setIfInBounds_toArray, List.set_cons_zero, List.set_cons_succ]
                    refine wpAnyH_take (i := 19) (v := .bool false) rfl (by kernel_rfl) (by kernel_rfl) (by kernel_rfl) (fun _ _ _ h => h) (Or.inl ⟨by rfl, fun w hSw => by obtain ⟨hS1, hS2⟩ := hSw; go_simp⟩) (by assumption) ?_
                    simp only [List.getElem_toArray, List.getElem_cons_succ, List.getElem_cons_zero, Act.put, List.setIfInBounds_toArray, List.set_cons_zero, List.set_cons_succ]
                    refine wpAnyH_take (i := 20) (v := .bool false) rfl (by kernel_rfl) (by kernel_rfl) (by kernel_rfl) (fun _ _ _ h => h) (Or.inl ⟨by rfl, fun w hSw => by obtain ⟨hS1, hS2⟩ := hSw; go_simp⟩) (by assumption) ?_
                    simp only [List.getElem_toArray, List.getElem_cons_succ, List.getElem_cons_zero, Act.put, List.setIfInBounds_toArray, List.set_cons_zero, List.set_cons_succ]
                    refine wpAnyH_take (i := 21) (v := .slice (some ⟨gO, 0, none⟩) i co) rfl (by kernel_rfl) (by kernel_rfl) (by kernel_rfl) (fun _ _ _ h => h) (Or.inl ⟨by rfl, fun w hSw => by obtain ⟨hS1, hS2⟩ := hSw; go_simp⟩) (by assumption) ?_
                    simp only [List.getElem_toArray, List.getElem_cons_succ, List.getElem_cons_zero, Act.put, List.setIfInBounds_toArray, List.set_cons_zero, List.set_cons_succ]
                    refine wpAnyH_take (i := 22) (v := .int .i64 (P : Int)) rfl (by kernel_rfl) (by kernel_rfl) (by kernel_rfl) (fun _ _ _ h => h) (Or.inl ⟨by rfl, fun w hSw => by obtain ⟨hS1, hS2⟩ := hSw; go_simp⟩) (by assumption) ?_
                    simp only [List.getElem_toArray, List.getElem_cons_succ, List.getElem_cons_zero, Act.put, List.setIfInBounds_toArray, List.set_cons_zero, List.set_cons_succ]
                    refine wpAnyH_take (i := 23) (v := .pointer (some ⟨gO, P, none⟩)) rfl (by kernel_rfl) (by kernel_rfl) (by kernel_rfl) (fun _ _ _ h => h) (Or.inl ⟨by rfl, fun w hSw => by obtain ⟨hS1, hS2⟩ := hSw; go_simp⟩) (by assumption) ?_
                    simp only [List.getElem_toArray, List.getElem_cons_succ, List.getElem_cons_zero, Act.put, List.setIfInBounds_toArray, List.set_cons_zero, List.set_cons_succ]
                    refine wpAnyH_take (i := 24) (v := .slice (ra) 512 rc) rfl (by kernel_rfl) (by kernel_rfl) (by kernel_rfl) (fun _ _ _ h => h) (Or.inl ⟨by rfl, fun w hSw => by obtain ⟨hS1, hS2⟩ := hSw; go_simp⟩) (by assumption) ?_
                    simp only [List.getElem_toArray, List.getElem_cons_succ, List.getElem_cons_zero, Act.put, List.setIfInBounds_toArray, List.set_cons_zero, List.set_cons_succ]
                    refine wpAnyH_take (i := 25) (v := .agg (rV).toArray) rfl (by kernel_rfl) (by kernel_rfl) (by kernel_rfl) (fun _ _ _ h => h) (yieldsIf_load_mid (by rfl) _ _ rfl _ _ rfl _ _ (fun w hSw => hSw.2) Tryd.underlying26 rfl hiR) (by assumption) ?_
                    simp only [List.getElem_toArray, List.getElem_cons_succ, List.getElem_cons_zero, Act.put, List.setIfInBounds_toArray, List.set_cons_zero, List.set_cons_succ]
                    refine wpAnyH_take (i := 26) (v := .int .i64 (P : Int)) rfl (by kernel_rfl) (by kernel_rfl) (by kernel_rfl) (fun _ _ _ h => h) (Or.inl ⟨by rfl, fun w hSw => by obtain ⟨hS1, hS2⟩ := hSw; go_simp⟩) (by assumption) ?_
                    simp only [List.getElem_toArray, List.getElem_cons_succ, List.getElem_cons_zero, Act.put, List.setIfInBounds_toArray, List.set_cons_zero, List.set_cons_succ]
                    refine wpAnyH_take (i := 27) (v := .int .i64 0) rfl (by kernel_rfl) (by kernel_rfl) (by kernel_rfl) (fun _ _ _ h => h) (Or.inl ⟨by rfl, fun w hSw => by obtain ⟨hS1, hS2⟩ := hSw; go_simp⟩) (by assumption) ?_
                    simp only [List.getElem_toArray, List.getElem_cons_succ, List.getElem_cons_zero, Act.put, List.setIfInBounds_toArray, List.set_cons_zero, List.set_cons_succ]
                    refine wpAnyH_take (i := 28) (v := .int .i64 256) rfl (by kernel_rfl) (by kernel_rfl) (by kernel_rfl) (fun _ _ _ h => h) (Or.inl ⟨by rfl, fun w hSw => by obtain ⟨hS1, hS2⟩ := hSw; go_simp⟩) (by assumption) ?_
                    simp only [List.getElem_toArray, List.getElem_cons_succ, List.getElem_cons_zero, Act.put, List.setIfInBounds_toArray, List.set_cons_zero, List.set_cons_succ]
                    refine wpAnyH_ready (rs := [29]) (by kernel_rfl) (by simp) (AllReadyH.cons rfl (fun K hK => ?_) AllReadyH.nil)
                    refine step_call4GC (by rfl) 9 sound_enter6 (.tmp 219) (.tmp 220) (.tmp 221) (.tmp 223) _ rfl rfl rfl rfl rfl (unhide HSO _ _ _ _ hx2 HD3.out) ?_
                    rintro e wc ⟨rfl, hbwc⟩
                    have hx3 : Below wr.heap.size wr wc := hx2.trans (hbwc.mono hx2.size)
                    refine ⟨_, rfl, ?_⟩
                    refine hK.out _ _ (unhide HSS _ hx3) (fun hJ3 => ?_)
                    clear hK K
                    simp only [List.getElem_toArray, List.getElem_cons_succ, List.getElem_cons_zero, Act.put, List.setIfInBounds_toArray, List.set_cons_zero, List.set_cons_succ]
                    refine wpAnyH_take (i := 30) (v := .bool false) rfl (by kernel_rfl) (by kernel_rfl) (by kernel_rfl) (fun _ _ _ h => h) (Or.inl ⟨by rfl, fun w hSw => by obtain ⟨hS1, hS2⟩ := hSw; go_simp⟩) (by assumption) ?_
                    simp only [List.getElem_toArray, List.getElem_cons_succ, List.getElem_cons_zero, Act.put, List.setIfInBounds_toArray, List.set_cons_zero, List.set_cons_succ]
                    refine wpAnyH_take (i := 31) (v := .bool false) rfl (by kernel_rfl) (by kernel_rfl) (by kernel_rfl) (fun _ _ _ h => h) (Or.inl ⟨by rfl, fun w hSw => by obtain ⟨hS1, hS2⟩ := hSw; go_simp⟩) (by assumption) ?_
                    simp only [List.getElem_toArray, List.getElem_cons_succ, List.getElem_cons_zero, Act.put, List.setIfInBounds_toArray, List.set_cons_zero, List.set_cons_succ]
                    refine wpAnyH_take (i := 32) (v := .slice (some ⟨gO, 0, none⟩) i co) rfl (by kernel_rfl) (by kernel_rfl) (by kernel_rfl) (fun _ _ _ h => h) (Or.inl ⟨by rfl, fun w hSw => by obtain ⟨hS1, hS2⟩ := hSw; go_simp⟩) (by assumption) ?_
                    simp only [List.getElem_toArray, List.getElem_cons_succ, List.getElem_cons_zero, Act.put, List.setIfInBounds_toArray, List.set_cons_zero, List.set_cons_succ]
                    refine wpAnyH_take (i := 33) (v := .int .i64 (P : Int)) rfl (by kernel_rfl) (by kernel_rfl) (by kernel_rfl) (fun _ _ _ h => h) (Or.inl ⟨by rfl, fun w hSw => by obtain ⟨hS1, hS2⟩ := hSw; go_simp⟩) (by assumption) ?_
                    simp only [List.getElem_toArray, List.getElem_cons_succ, List.getElem_cons_zero, Act.put, List.setIfInBounds_toArray, List.set_cons_zero, List.set_cons_succ]
                    refine wpAnyH_take (i := 34) (v := .pointer (some ⟨gO, P, none⟩)) rfl (by kernel_rfl) (by kernel_rfl) (by kernel_rfl) (fun _ _ _ h => h) (Or.inl ⟨by rfl, fun w hSw => by obtain ⟨hS1, hS2⟩ := hSw; go_simp⟩) (by assumption) ?_
                    simp only [List.getElem_toArray, List.getElem_cons_succ, List.getElem_cons_zero, Act.put, List.setIfInBounds_toArray, List.set_cons_zero, List.set_cons_succ]
                    refine wpAnyH_take (i := 35) (v := .slice (ra) 512 rc) rfl (by kernel_rfl) (by kernel_rfl) (by kernel_rfl) (fun _ _ _ h => h) (Or.inl ⟨by rfl, fun w hSw => by obtain ⟨hS1, hS2⟩ := hSw; go_simp⟩) (by assumption) ?_
                    simp only [List.getElem_toArray, List.getElem_cons_succ, List.getElem_cons_zero, Act.put, List.setIfInBounds_toArray, List.set_cons_zero, List.set_cons_succ]
                    refine wpAnyH_take (i := 36) (v := .agg (rV).toArray) rfl (by kernel_rfl) (by kernel_rfl) (by kernel_rfl) (fun _ _ _ h => h) (yieldsIf_load_mid (by rfl) _ _ rfl _ _ rfl _ _ (fun w hSw => hSw.2) Tryd.underlying26 rfl hiR) (by assumption) ?_
                    simp only [List.getElem_toArray, List.getElem_cons_succ, List.getElem_cons_zero, Act.put, List.setIfInBounds_toArray, List.set_cons_zero, List.set_cons_succ]
                    refine wpAnyH_take (i := 37) (v := .int .i64 (P : Int)) rfl (by kernel_rfl) (by kernel_rfl) (by kernel_rfl) (fun _ _ _ h => h) (Or.inl ⟨by rfl, fun w hSw => by obtain ⟨hS1, hS2⟩ := hSw; go_simp⟩) (by assumption) ?_
                    simp only [List.getElem_toArray, List.getElem_cons_succ, List.getElem_cons_zero, Act.put, List.setIfInBounds_toArray, List.set_cons_zero, List.set_cons_succ]
                    refine wpAnyH_take (i := 38) (v := .int .i64 0) rfl (by kernel_rfl) (by kernel_rfl) (by kernel_rfl) (fun _ _ _ h => h) (Or.inl ⟨by rfl, fun w hSw => by obtain ⟨hS1, hS2⟩ := hSw; go_simp⟩) (by assumption) ?_
                    simp only [List.getElem_toArray, List.getElem_cons_succ, List.getElem_cons_zero, Act.put, List.setIfInBounds_toArray, List.set_cons_zero, List.set_cons_succ]
                    refine wpAnyH_take (i := 39) (v := .int .i64 65536) rfl (by kernel_rfl) (by kernel_rfl) (by kernel_rfl) (fun _ _ _ h => h) (Or.inl ⟨by rfl, fun w hSw => by obtain ⟨hS1, hS2⟩ := hSw; go_simp⟩) (by assumption) ?_
                    simp only [List.getElem_toArray, List.getElem_cons_succ, List.getElem_cons_zero, Act.put, List.setIfInBounds_toArray, List.set_cons_zero, List.set_cons_succ]
                    refine wpAnyH_ready (rs := [40]) (by kernel_rfl) (by simp) (AllReadyH.cons rfl (fun K hK => ?_) AllReadyH.nil)
                    refine step_call4GC (by rfl) 9 sound_enter6 (.tmp 230) (.tmp 231) (.tmp 232) (.tmp 234) _ rfl rfl rfl rfl rfl (unhide HSO _ _ _ _ hx3 HD4.out) ?_
                    rintro e wd ⟨rfl, hbwd⟩
                    have hx4 : Below wr.heap.size wr wd := hx3.trans (hbwd.mono hx3.size)
                    refine ⟨_, rfl, ?_⟩
                    refine hK.out _ _ (unhide HSS _ hx4) (fun hJ4 => ?_)
                    clear hK K
                    simp only [List.getElem_toArray, List.getElem_cons_succ, List.getElem_cons_zero, Act.put, List.setIfInBounds_toArray, List.set_cons_zero, List.set_cons_succ]
                    refine wpAnyH_take (i := 41) (v := .bool false) rfl (by kernel_rfl) (by kernel_rfl) (by kernel_rfl) (fun _ _ _ h => h) (Or.inl ⟨by rfl, fun w hSw => by obtain ⟨hS1, hS2⟩ := hSw; go_simp⟩) (by assumption) ?_
                    simp only [List.getElem_toArray, List.getElem_cons_succ, List.getElem_cons_zero, Act.put, List.setIfInBounds_toArray, List.set_cons_zero, List.set_cons_succ]
                    refine wpAnyH_take (i := 42) (v := .bool false) rfl (by kernel_rfl) (by kernel_rfl) (by kernel_rfl) (fun _ _ _ h => h) (Or.inl ⟨by rfl, fun w hSw => by obtain ⟨hS1, hS2⟩ := hSw; go_simp⟩) (by assumption) ?_
                    simp only [List.getElem_toArray, List.getElem_cons_succ, List.getElem_cons_zero, Act.put, List.setIfInBounds_toArray, List.set_cons_zero, List.set_cons_succ]
                    refine wpAnyH_take (i := 43) (v := .int .i64 (P : Int)) rfl (by kernel_rfl) (by kernel_rfl) (by kernel_rfl) (fun _ _ _ h => h) (Or.inl ⟨by rfl, fun w hSw => by obtain ⟨hS1, hS2⟩ := hSw; go_simp⟩) (by assumption) ?_
                    simp only [List.getElem_toArray, List.getElem_cons_succ, List.getElem_cons_zero, Act.put, List.setIfInBounds_toArray, List.set_cons_zero, List.set_cons_succ]
                    refine wpAnyH_take (i := 44) (v := .bool false) rfl (by kernel_rfl) (by kernel_rfl) (by kernel_rfl) (fun _ _ _ h => h) (Or.inl ⟨by rfl, fun w hSw => by obtain ⟨hS1, hS2⟩ := hSw; go_simp⟩) (by assumption) ?_
                    simp only [List.getElem_toArray, List.getElem_cons_succ, List.getElem_cons_zero, Act.put, List.setIfInBounds_toArray, List.set_cons_zero, List.set_cons_succ]
                    refine wpAnyH_take (i := 45) (v := .bool false) rfl (by kernel_rfl) (by kernel_rfl) (by kernel_rfl) (fun _ _ _ h => h) (Or.inl ⟨by rfl, fun w hSw => by obtain ⟨hS1, hS2⟩ := hSw; go_simp⟩) (by assumption) ?_
                    simp only [List.getElem_toArray, List.getElem_cons_succ, List.getElem_cons_zero, Act.put, List.setIfInBounds_toArray, List.set_cons_zero, List.set_cons_succ]
                    refine wpAnyH_take (i := 46) (v := undef) rfl (by kernel_rfl) (by kernel_rfl) (by kernel_rfl) (fun _ _ _ h => h) (Or.inr ⟨by rfl, rfl⟩) (by assumption) ?_
                    simp only [List.getElem_toArray, List.getElem_cons_succ, List.getElem_cons_zero, Act.put, List.setIfInBounds_toArray, List.set_cons_zero, List.set_cons_succ]
                    refine wpAnyH_take (i := 47) (v := undef) rfl (by kernel_rfl) (by kernel_rfl) (by kernel_rfl) (fun _ _ _ h => h) (Or.inr ⟨by rfl, rfl⟩) (by assumption) ?_
                    simp only [List.getElem_toArray, List.getElem_cons_succ, List.getElem_cons_zero, Act.put, List.setIfInBounds_toArray, List.set_cons_zero, List.set_cons_succ]
                    refine wpAnyH_take (i := 48) (v := undef) rfl (by kernel_rfl) (by kernel_rfl) (by kernel_rfl) (fun _ _ _ h => h) (Or.inr ⟨by rfl, rfl⟩) (by assumption) ?_
                    simp only [List.getElem_toArray, List.getElem_cons_succ, List.getElem_cons_zero, Act.put, List.setIfInBounds_toArray, List.set_cons_zero, List.set_cons_succ]
                    refine wpAnyH_take (i := 49) (v := undef) rfl (by kernel_rfl) (by kernel_rfl) (by kernel_rfl) (fun _ _ _ h => h) (Or.inr ⟨by rfl, rfl⟩) (by assumption) ?_
                    simp only [List.getElem_toArray, List.getElem_cons_succ, List.getElem_cons_zero, Act.put, List.setIfInBounds_toArray, List.set_cons_zero, List.set_cons_succ]
                    refine wpAnyH_take (i := 50) (v := undef) rfl (by kernel_rfl) (by kernel_rfl) (by kernel_rfl) (fun _ _ _ h => h) (Or.inr ⟨by rfl, rfl⟩) (by assumption) ?_
                    simp only [List.getElem_toArray, List.getElem_cons_succ, List.getElem_cons_zero, Act.put, List.setIfInBounds_toArray, List.set_cons_zero, List.set_cons_succ]
                    refine wpAnyH_take (i := 51) (v := undef) rfl (by kernel_rfl) (by kernel_rfl) (by kernel_rfl) (fun _ _ _ h => h) (Or.inr ⟨by rfl, rfl⟩) (by assumption) ?_
                    simp only [List.getElem_toArray, List.getElem_cons_succ, List.getElem_cons_zero, Act.put, List.setIfInBounds_toArray, List.set_cons_zero, List.set_cons_succ]
                    refine wpAnyH_take (i := 52) (v := undef) rfl (by kernel_rfl) (by kernel_rfl) (by kernel_rfl) (fun _ _ _ h => h) (Or.inr ⟨by rfl, rfl⟩) (by assumption) ?_
                    simp only [List.getElem_toArray, List.getElem_cons_succ, List.getElem_cons_zero, Act.put, List.setIfInBounds_toArray, List.set_cons_zero, List.set_cons_succ]
                    refine wpAnyH_take (i := 53) (v := undef) rfl (by kernel_rfl) (by kernel_rfl) (by kernel_rfl) (fun _ _ _ h => h) (Or.inr ⟨by rfl, rfl⟩) (by assumption) ?_
                    simp only [List.getElem_toArray, List.getElem_cons_succ, List.getElem_cons_zero, Act.put, List.setIfInBounds_toArray, List.set_cons_zero, List.set_cons_succ]
                    refine wpAnyH_take (i := 54) (v := undef) rfl (by kernel_rfl) (by kernel_rfl) (by kernel_rfl) (fun _ _ _ h => h) (Or.inr ⟨by rfl, rfl⟩) (by assumption) ?_
                    simp only [List.getElem_toArray, List.getElem_cons_succ, List.getElem_cons_zero, Act.put, List.setIfInBounds_toArray, List.set_cons_zero, List.set_cons_succ]
                    refine wpAnyH_take (i := 55) (v := .bool false) rfl (by kernel_rfl) (by kernel_rfl) (by kernel_rfl) (fun _ _ _ h => h) (Or.inl ⟨by rfl, fun w hSw => by obtain ⟨hS1, hS2⟩ := hSw; go_simp⟩) (by assumption) ?_
                    simp only [List.getElem_toArray, List.getElem_cons_succ, List.getElem_cons_zero, Act.put, List.setIfInBounds_toArray, List.set_cons_zero, List.set_cons_succ]
                    refine wpAnyH_take (i := 56) (v := .bool false) rfl (by kernel_rfl) (by kernel_rfl) (by kernel_rfl) (fun _ _ _ h => h) (Or.inl ⟨by rfl, fun w hSw => by obtain ⟨hS1, hS2⟩ := hSw; go_simp⟩) (by assumption) ?_
                    simp only [List.getElem_toArray, List.getElem_cons_succ, List.getElem_cons_zero, Act.put, List.setIfInBounds_toArray, List.set_cons_zero, List.set_cons_succ]
                    refine wpAnyH_done (by kernel_rfl) ?_ _
                    have HGZ : Hid (Gs w wd S p gl gm V' D gL i ks BO gO co us ((List.range i).map (sectK TX ks)) gF rV gT L TX i) := hide (HJ.out.below hx4)
                    clear hHeld hJ1 hJ2 hJ3 hJ4 HJ HSS HSO
                    go_wp2
                    go_roundw
                    case rel => exact ⟨j + 1, by omega, by omega, by go_num, HGZ⟩
                    case measure => simp [intOf]; omega
              · have hc2I : ¬ (j : Int) < 6 := by omega
                have HGE : Hid (Calls Tryd.prog 24 #[.pointer (some ⟨p, 0, none⟩), .int .i64 (F : Int), .agg rV.toArray] wr fun e w' => ∃ ra rn rc, e = .returned (.tuple #[.slice ra rn rc, .int .i64 0, .int .i64 0]) ∧ IsB w' (.slice ra rn rc) TX ∧ IsB w' (.slice (some ⟨gT, 0, none⟩) L L) TX ∧ Below S w w' ∧ TT w') := hide (by
                  have hG := HJ.out
                  have hxl : TX.length = L := hG.tx.lenEq.symm
                  have hg := get_put (heap := F) (f0 := ks.getD 0 0) (k := i) (n := n) (bn := L) (bs := TX) (ks := ks) hG.dk hG.tt hG.lo HDN.out hxl hL2 HKE.out HKL.out hk1 HIN.out HNOD.out hn6 HF1.out rfl HNOW.out (by show 0 ≤ D.rd + (i : Int); have := HDR.out; omega) (by show D.rd + (i : Int) ≤ 1000000; have := HDR.out; omega)
                  rw [HRV.out] at hg
                  refine hg.mono ?_
                  rintro e w' ⟨ra, rn, rc, m9, rfl, ho, hD9, _, hU⟩
                  have hr9 : (D.reads i).reads m9 = D.reads (i + m9) := by
                    show ({ D with rd := _ } : AD) = { D with rd := _ }
                    congr 1
                    show D.rd + (i : Int) + (m9 : Int) = D.rd + ((i + m9 : Nat) : Int)
                    omega
                  rw [hr9] at hD9
                  have hGz := hG.up hU hD9
                  exact ⟨ra, rn, rc, rfl, ho.isB, hGz.tx, hGz.bel, hGz.tt⟩)
                have hgR : wr.rangeAt gF 0 rV := arr_range (ds := []) (by rw [List.append_nil]; exact HJ.out.rf)
                clear HJ
                go_wp2_with (refine wpList_load_mid rfl 26 (.tmp 24) rfl gF 0 rfl rV _ hgR Tryd.underlying26 rfl hiR ?_)
                refine (unhide HGE).mono ?_
                rintro e w20 ⟨ra, rn, rc, rfl, hX, hY, hbz, hTz⟩
                have HSM : Hid (Calls Tryd.prog 11 #[.slice ra rn rc, .slice (some ⟨gT, 0, none⟩) L L] w20 fun e w' => e = .returned (.bool true) ∧ w' = w20) := hide ((same6_calls hX hY).mono (fun e w' h => ⟨by rw [h.1, decide_eq_true rfl], h.2⟩))
                have HST := hide (started_calls hTz)
                have HBZ := hide hbz
                clear hX hY hbz hTz HGE hgR
                go_wp2_with fail
                refine (unhide HNU _).mono ?_
                rintro e wn ⟨rfl, hwn⟩
                obtain rfl := hwn.symm
                clear hwn
                go_wp2_with fail
                refine (unhide HSM).mono ?_
                rintro e wn ⟨rfl, hwn⟩
                obtain rfl := hwn.symm
                clear hwn HSM
                go_wp2_with fail
                refine (unhide HST).mono ?_
                rintro e w21 ⟨rfl, hb21⟩
                have HFIN : Hid (Below S w w21) := hide (HBZ.out.trans (hb21.mono (by have := HBZ.out.size; have := HSE.out; omega)))
                clear hb21 HST HBZ
                go_wp2
                go_ret
                exact ⟨rfl, HFIN.out⟩
            · have hc1I : ¬ (j : Int) < (pn : Int) := by omega
              have HGE : Hid (Calls Tryd.prog 24 #[.pointer (some ⟨p, 0, none⟩), .int .i64 (F : Int), .agg rV.toArray] wr fun e w' => ∃ ra rn rc, e = .returned (.tuple #[.slice ra rn rc, .int .i64 0, .int .i64 0]) ∧ IsB w' (.slice ra rn rc) TX ∧ IsB w' (.slice (some ⟨gT, 0, none⟩) L L) TX ∧ Below S w w' ∧ TT w') := hide (by
                have hG := HJ.out
                have hxl : TX.length = L := hG.tx.lenEq.symm
                have hg := get_put (heap := F) (f0 := ks.getD 0 0) (k := i) (n := n) (bn := L) (bs := TX) (ks := ks) hG.dk hG.tt hG.lo HDN.out hxl hL2 HKE.out HKL.out hk1 HIN.out HNOD.out hn6 HF1.out rfl HNOW.out (by show 0 ≤ D.rd + (i : Int); have := HDR.out; omega) (by show D.rd + (i : Int) ≤ 1000000; have := HDR.out; omega)
                rw [HRV.out] at hg
                refine hg.mono ?_
                rintro e w' ⟨ra, rn, rc, m9, rfl, ho, hD9, _, hU⟩
                have hr9 : (D.reads i).reads m9 = D.reads (i + m9) := by
                  show ({ D with rd := _ } : AD) = { D with rd := _ }
                  congr 1
                  show D.rd + (i : Int) + (m9 : Int) = D.rd + ((i + m9 : Nat) : Int)
                  omega
                rw [hr9] at hD9
                have hGz := hG.up hU hD9
                exact ⟨ra, rn, rc, rfl, ho.isB, hGz.tx, hGz.bel, hGz.tt⟩)
              have hgR : wr.rangeAt gF 0 rV := arr_range (ds := []) (by rw [List.append_nil]; exact HJ.out.rf)
              clear HJ
              go_wp2_with (refine wpList_load_mid rfl 26 (.tmp 24) rfl gF 0 rfl rV _ hgR Tryd.underlying26 rfl hiR ?_)
              refine (unhide HGE).mono ?_
              rintro e w20 ⟨ra, rn, rc, rfl, hX, hY, hbz, hTz⟩
              have HSM : Hid (Calls Tryd.prog 11 #[.slice ra rn rc, .slice (some ⟨gT, 0, none⟩) L L] w20 fun e w' => e = .returned (.bool true) ∧ w' = w20) := hide ((same6_calls hX hY).mono (fun e w' h => ⟨by rw [h.1, decide_eq_true rfl], h.2⟩))
              have HST := hide (started_calls hTz)
              have HBZ := hide hbz
              clear hX hY hbz hTz HGE hgR
              go_wp2_with fail
              refine (unhide HNU _).mono ?_
              rintro e wn ⟨rfl, hwn⟩
              obtain rfl := hwn.symm
              clear hwn
              go_wp2_with fail
              refine (unhide HSM).mono ?_
              rintro e wn ⟨rfl, hwn⟩
              obtain rfl := hwn.symm
              clear hwn HSM
              go_wp2_with fail
              refine (unhide HST).mono ?_
              rintro e w21 ⟨rfl, hb21⟩
              have HFIN : Hid (Below S w w21) := hide (HBZ.out.trans (hb21.mono (by have := HBZ.out.size; have := HSE.out; omega)))
              clear hb21 HST HBZ
              go_wp2
              go_ret
              exact ⟨rfl, HFIN.out⟩
end Go.Proofs.YtdafiobonhikiaaDoor
