/- What JournalArgs answers. -/
import Derived.Test.YtdmkpfpbhmchpaaDoorJrNd
namespace Go.Proofs.YtdmkpfpbhmchpaaDoor
open Go.RowKit Go.Maps

def z3Ac : List Value := [.int .i64 0, .int .i64 0, .int .i64 0]
theorem infoAc : (Tryd.prog.info? 60).map (fun i => (i.zero, i.size, i.bytes)) = some (some (.agg z3Ac.toArray), 3, 24) := by kernel_rfl
theorem infoAcz : (Tryd.prog.info? 60).map (·.size) = some 3 := by kernel_rfl
theorem acts_oneA (a b c : Int) : ∀ u ∈ [Value.int .i64 a, .int .i64 b, .int .i64 c], u.oneCell' = true := by
  intro u hu
  simp only [List.mem_cons, List.not_mem_nil, or_false] at hu
  rcases hu with rfl | rfl | rfl <;> rfl
theorem sn_actsA {w0 W : World} {p : Nat} {D : AD} (h : Sn w0 W p D) : Calls Tryd.prog 27 #[.pointer (some ⟨p, 0, none⟩)] W fun e w' => e = .returned (.agg #[.int .i64 D.rd, .int .i64 D.wt, .int .i64 D.fl]) ∧ Below W.heap.size W w' := by
  obtain ⟨gl, gm, V, h1, h2, h3⟩ := h
  exact acts_calls h1.cells.2.2.1 h1.cells.2.2.2.1 h1.cells.2.2.2.2
theorem okA_dec (x0 x1 x2 : Int) : okA 24 x0 x1 x2 ∨ ¬ okA 24 x0 x1 x2 := Classical.em _
set_option maxRecDepth 100000 in
set_option maxHeartbeats 4000000 in
theorem journalArgs_walk {w : World} (x0 x1 x2 : Int) (ht : Tab w) : Calls Tryd.prog 5 #[.int .i64 x0, .int .i64 x1, .int .i64 x2] w fun e w' => e = .returned (.bool true) ∧ Below w.heap.size w w' := by
  have HTB := hide ht
  have HR0 : Hid (∀ W, Calls Tryd.prog 22 #[.pointer none, .int .i64 x0, .int .i64 x1, .int .i64 x2] W fun e w' => e = .returned (.tuple #[.slice none 0 0, .int .i64 1]) ∧ W = w') := hide (fun W => (replay_nil W x0 x1 x2).mono fun _ _ ⟨a, b⟩ => ⟨a, b.symm⟩)
  have HO0 : Hid (∀ W, Calls Tryd.prog 23 #[.pointer none, .int .i64 x0, .int .i64 x1, .int .i64 x2] W fun e w' => e = .returned (.tuple #[.pointer none, .slice none 0 0, .int .i64 1]) ∧ W = w') := hide (fun W => (open_nil W x0 x1 x2).mono fun _ _ ⟨a, b⟩ => ⟨a, b.symm⟩)
  have HTO : Hid (∀ W, Below w.heap.size w W → Calls Tryd.prog 8 #[] W fun e w' => e = .returned (.bool true) ∧ Below W.heap.size W w') := hide (fun W hW => jtold_calls (HTB.out.below hW))
  have HNW : Hid (∀ W, Below w.heap.size w W → Calls Tryd.prog 24 #[.int .i64 24] W fun e w' => ∃ p, e = .returned (.tuple #[.pointer (some ⟨p, 0, none⟩), .int .i64 0]) ∧ Sn w w' p (zeroD 24) ∧ Below W.heap.size W w') := hide (fun W hW => sn_new (n := 24) hW (by decide) (by decide))
  have HND : Hid (∀ W, Calls Tryd.prog 26 #[.int .i64 24] W fun e w' => ∃ p, e = .returned (.pointer (some ⟨p, 0, none⟩)) ∧ RZ w' p 24 ∧ Below W.heap.size W w') := hide (fun W => newdisk17_calls (n := 24) (by decide) (by decide))
  have HAC : Hid (∀ W p D, Sn w W p D → Calls Tryd.prog 27 #[.pointer (some ⟨p, 0, none⟩)] W fun e w' => e = .returned (.agg #[.int .i64 D.rd, .int .i64 D.wt, .int .i64 D.fl]) ∧ Below W.heap.size W w') := hide (fun W p D h => sn_actsA h)
  clear ht
  rcases okA_dec x0 x1 x2 with hok | hok
  case inr =>
    have HRB : Hid (∀ W p, Sn w W p (zeroD 24) → Calls Tryd.prog 22 #[.pointer (some ⟨p, 0, none⟩), .int .i64 x0, .int .i64 x1, .int .i64 x2] W fun e w' => e = .returned (.tuple #[.slice none 0 0, .int .i64 1]) ∧ W = w') := hide (fun W p h => (replay_bad h (by simpa [zeroD] using hok)).mono fun _ _ ⟨a, b⟩ => ⟨a, b.symm⟩)
    have HRR : Hid (∀ W p, RZ W p 24 → Calls Tryd.prog 25 #[.pointer (some ⟨p, 0, none⟩), .int .i64 x0, .int .i64 x1, .int .i64 x2] W fun e w' => e = .returned (.tuple #[.slice none 0 0, .int .i64 1]) ∧ W = w') := hide (fun W p h => (rreplay_bad h (by decide) hok).mono fun _ _ ⟨a, b⟩ => ⟨a, b.symm⟩)
    clear hok
    go_enter Tryd.func5, Tryd.ntmps5
    go_wp2_with fail
    refine (unhide HR0 _).mono ?_
    rintro e wx ⟨rfl, rfl⟩
    go_wp2_with fail
    refine (unhide HO0 _).mono ?_
    rintro e wx ⟨rfl, rfl⟩
    go_wp2_with fail
    refine (unhide HTO _ (Below.refl _ _)).mono ?_
    rintro e w1 ⟨rfl, hb1⟩
    have HB1 := hide hb1
    clear hb1 HTO HR0 HO0
    go_wp2_with fail
    refine (unhide HNW _ HB1.out).mono ?_
    rintro e w2 ⟨p, rfl, hS2, _⟩
    have HS2 := hide hS2
    clear hS2 HNW HB1
    go_wp2_with fail
    refine (unhide HRB _ _ HS2.out).mono ?_
    rintro e w3 ⟨rfl, hw3⟩
    obtain rfl := hw3
    clear HRB
    go_wp2_with fail
    refine (unhide HND _).mono ?_
    rintro e w4 ⟨p4, rfl, hz4, hb4⟩
    have HZ4 := hide hz4
    have HS4 := hide (HS2.out.below hb4)
    clear hz4 hb4 HND HS2
    go_wp2_with fail
    refine (unhide HRR _ _ HZ4.out).mono ?_
    rintro e w5 ⟨rfl, hw5⟩
    obtain rfl := hw5
    clear HRR HZ4
    go_wp2_with fail
    refine (unhide HAC _ _ _ HS4.out).mono ?_
    rintro e w6 ⟨rfl, hb6⟩
    have HB6 := hide (below_then HS4.out.be hb6)
    clear hb6 HAC HS4
    rw [show (zeroD 24).rd = 0 from rfl, show (zeroD 24).wt = 0 from rfl, show (zeroD 24).fl = 0 from rfl]
    have HX : Hid (∀ w7, Arr w7 w6.heap.size 60 [.int .i64 0, .int .i64 0, .int .i64 0] → (w6.alloc (.cells z3Ac.toArray 60)).grownBy w7 (some w6.heap.size) → (w7.cell? ⟨w6.heap.size, 0, none⟩ = some (.int .i64 0) ∧ w7.cell? ⟨w6.heap.size, 1, none⟩ = some (.int .i64 0) ∧ w7.cell? ⟨w6.heap.size, 2, none⟩ = some (.int .i64 0)) ∧ Below w.heap.size w w7) := hide (fun w7 h1 h2 => by
      have hba := jalloc_below w6 (.cells z3Ac.toArray 60)
      exact ⟨⟨h1.cell 0, h1.cell 1, h1.cell 2⟩, below_then HB6.out (jbelow_grown hba h2 hba.size (Nat.le_refl _))⟩)
    go_wp2_with (first
      | (refine wpList_allocJ rfl 60 rfl infoAc ?_)
      | (refine wpList_storeJ rfl (.tmp 16) (.tmp 81) 60 rfl rfl (ds := [.int .i64 0, .int .i64 0, .int .i64 0]) rfl (Arr.new w6 z3Ac 60) infoAcz rfl (acts_oneA 0 0 0) ?_; intro w7 hA7 hg7
         obtain ⟨⟨c0, c1, c2⟩, hb7⟩ := unhide HX w7 hA7 hg7
         have HB7 := hide hb7
         clear hA7 hg7 hb7 HX)
      | fail)
    go_ret
    exact ⟨rfl, HB7.out⟩
  case inl =>
    obtain ⟨k0, k1, k2, k3, k4, k5⟩ := hok
    obtain ⟨fr, rfl⟩ : ∃ fr : Nat, x0 = (fr : Int) := ⟨x0.toNat, by omega⟩
    obtain ⟨n, rfl⟩ : ∃ n : Nat, x1 = (n : Int) := ⟨x1.toNat, by omega⟩
    obtain ⟨st, rfl⟩ : ∃ st : Nat, x2 = (st : Int) := ⟨x2.toNat, by omega⟩
    have HRB : Hid (∀ W p, Sn w W p (zeroD 24) → Calls Tryd.prog 22 #[.pointer (some ⟨p, 0, none⟩), .int .i64 (fr : Int), .int .i64 (n : Int), .int .i64 (st : Int)] W fun e w' => ∃ a c, ∃ m : Nat, e = .returned (.tuple #[.slice a 0 c, .int .i64 0]) ∧ m ≤ n ∧ Sn w w' p ((zeroD 24).rds m)) := hide (fun W p h => by
      refine (replay_calls h HTB.out (Int.le_refl 0) (by show (0 : Int) ≤ _; decide) (by omega) (by omega) (by simp [zeroD]; omega) (by omega)).mono ?_
      rintro e w' ⟨v, rfl, ⟨⟨m, hm, hs⟩, _, ⟨V, ho⟩⟩⟩
      obtain ⟨a, c, rfl, _⟩ := ho.shape
      rw [zero_rep]
      exact ⟨a, c, m, rfl, hm, hs⟩)
    have HRR : Hid (∀ W p, RZ W p 24 → Calls Tryd.prog 25 #[.pointer (some ⟨p, 0, none⟩), .int .i64 (fr : Int), .int .i64 (n : Int), .int .i64 (st : Int)] W fun e w' => e = .returned (.tuple #[.slice none 0 0, .int .i64 0]) ∧ Below W.heap.size W w') := hide (fun W p h => rreplay_zero h (by omega) (by omega) (by omega) (by decide) (by omega))
    clear k0 k1 k2 k3 k4 k5
    go_enter Tryd.func5, Tryd.ntmps5
    go_wp2_with fail
    refine (unhide HR0 _).mono ?_
    rintro e wx ⟨rfl, rfl⟩
    go_wp2_with fail
    refine (unhide HO0 _).mono ?_
    rintro e wx ⟨rfl, rfl⟩
    go_wp2_with fail
    refine (unhide HTO _ (Below.refl _ _)).mono ?_
    rintro e w1 ⟨rfl, hb1⟩
    have HB1 := hide hb1
    clear hb1 HTO HR0 HO0
    go_wp2_with fail
    refine (unhide HNW _ HB1.out).mono ?_
    rintro e w2 ⟨p, rfl, hS2, _⟩
    have HS2 := hide hS2
    clear hS2 HNW HB1
    go_wp2_with fail
    refine (unhide HRB _ _ HS2.out).mono ?_
    rintro e w3 ⟨a3, c3, m, rfl, hm, hS3⟩
    have HS3 := hide hS3
    have hmI : (m : Int) ≤ (n : Int) := by omega
    clear HRB hS3 HS2 hm
    go_wp2_with fail
    refine (unhide HND _).mono ?_
    rintro e w4 ⟨p4, rfl, hz4, hb4⟩
    have HZ4 := hide hz4
    have HS4 := hide (HS3.out.below hb4)
    clear hz4 hb4 HND HS3
    go_wp2_with fail
    refine (unhide HRR _ _ HZ4.out).mono ?_
    rintro e w5 ⟨rfl, hb5⟩
    have HS5 := hide (HS4.out.below hb5)
    clear HRR HZ4 HS4 hb5
    go_wp2_with fail
    refine (unhide HAC _ _ _ HS5.out).mono ?_
    rintro e w6 ⟨rfl, hb6⟩
    have HB6 := hide (below_then HS5.out.be hb6)
    clear hb6 HAC HS5
    rw [show ((zeroD 24).rds m).rd = (m : Int) by simp [AD.rds, zeroD], show ((zeroD 24).rds m).wt = 0 from rfl, show ((zeroD 24).rds m).fl = 0 from rfl]
    have HX : Hid (∀ w7, Arr w7 w6.heap.size 60 [.int .i64 (m : Int), .int .i64 0, .int .i64 0] → (w6.alloc (.cells z3Ac.toArray 60)).grownBy w7 (some w6.heap.size) → (w7.cell? ⟨w6.heap.size, 0, none⟩ = some (.int .i64 (m : Int)) ∧ w7.cell? ⟨w6.heap.size, 1, none⟩ = some (.int .i64 0) ∧ w7.cell? ⟨w6.heap.size, 2, none⟩ = some (.int .i64 0)) ∧ Below w.heap.size w w7) := hide (fun w7 h1 h2 => by
      have hba := jalloc_below w6 (.cells z3Ac.toArray 60)
      exact ⟨⟨h1.cell 0, h1.cell 1, h1.cell 2⟩, below_then HB6.out (jbelow_grown hba h2 hba.size (Nat.le_refl _))⟩)
    go_wp2_with (first
      | (refine wpList_allocJ rfl 60 rfl infoAc ?_)
      | (refine wpList_storeJ rfl (.tmp 16) (.tmp 81) 60 rfl rfl (ds := [.int .i64 (m : Int), .int .i64 0, .int .i64 0]) rfl (Arr.new w6 z3Ac 60) infoAcz rfl (acts_oneA (m : Int) 0 0) ?_; intro w7 hA7 hg7
         obtain ⟨⟨c0, c1, c2⟩, hb7⟩ := unhide HX w7 hA7 hg7
         have HB7 := hide hb7
         clear hA7 hg7 hb7 HX)
      | fail)
    go_ret
    exact ⟨rfl, HB7.out⟩
end Go.Proofs.YtdmkpfpbhmchpaaDoor
