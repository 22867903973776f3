/- chain: how many sectors, and the bytes of one. -/
import Derived.Test.YtlofoklfggmbiaaDoorQA
import Derived.Test.YtlofoklfggmbiaaDoorQC
import Derived.Laws.CopyOwn
namespace Go.Proofs.YtlofoklfggmbiaaDoor
open Go.RowKit Go.Maps

/-- How many sectors a byte string of so many bytes has. -/
def secN (n : Int) : Int := if n < 0 then 0 else if 1048576 < n then 0 else max 1 ((n + 479) / 480)
theorem secN_lo (n : Int) : 0 ≤ secN n := by unfold secN; split; omega; split; omega; omega
theorem secN_hi (n : Int) : secN n ≤ 2185 := by unfold secN; split; omega; split; omega; omega
theorem chSectors_calls (n : Int) (w : World) : Calls Tryd.prog 11 #[.int .i64 n] w fun e w' => e = .returned (.int .i64 (secN n)) ∧ w' = w := by
 by_cases h1 : n < 0
 · rw [show secN n = 0 by unfold secN; rw [if_pos h1]]
   go_enter Tryd.func11, Tryd.ntmps11
   go_wp2
   go_ret
   exact ⟨rfl, rfl⟩
 · by_cases h2 : 1048576 < n
   · have h3 : decide (n < 0) = false := by simpa using h1
     rw [show secN n = 0 by unfold secN; rw [if_neg h1, if_pos h2]]
     go_enter Tryd.func11, Tryd.ntmps11
     go_wp2
     go_ret
     exact ⟨rfl, rfl⟩
   · have h3 : decide (n < 0) = false := by simpa using h1
     have h4 : decide (1048576 < n) = false := by simpa using h2
     have e1 : IntKind.i64.wrap (n + 480) = n + 480 := IntWalk.i64_in _ (by omega)
     have e2 : IntKind.i64.wrap (n + 480 - 1) = n + 479 := by rw [show n + 480 - 1 = n + 479 by omega]; exact IntWalk.i64_in _ (by omega)
     have e4 : max 1 ((n + 479) / 480) = secN n := by unfold secN; rw [if_neg h1, if_neg h2]
     generalize secN n = z at e4 ⊢
     go_enter Tryd.func11, Tryd.ntmps11
     go_wp2
     all_goals go_ret
     all_goals (refine ⟨?_, rfl⟩; show Ending.returned (Value.int .i64 _) = _; congr 2; omega)
theorem infoS8 : (Tryd.prog.info? 5).map (·.size) = some 1 := by kernel_rfl
set_option maxRecDepth 100000 in
theorem lay_calls {w : World} {g off dl cap sz : Nat} {v : Int} {cur : List Value} (h : Arr w g 5 cur) (hv : 0 ≤ v) (h1 : 1 ≤ sz) (h8 : sz ≤ 8) (hz : v / 2 ^ (8 * sz) = 0) (hd : sz ≤ dl) (hf : off + sz ≤ cur.length) :
 Calls Tryd.prog 89 #[.slice (some ⟨g, off, none⟩) dl cap, .int .u64 v, .int .i64 (sz : Int)] w fun e w' => e = .returned (.tuple #[]) ∧ Arr w' g 5 (splice cur off ((fB v sz).map (Value.int .u8))) ∧ Below g w w' := by
 have HX := hide (fixed_in v sz w hv h1 h8 (by rw [hz]; rfl))
 have HA := hide h
 clear h
 go_enter Tryd.func89, Tryd.ntmps89
 go_wp2_with fail
 refine (unhide HX).mono ?_
 rintro e w1 ⟨u, rfl, hr, hb⟩
 have hr2 : Row w1 w.heap.size 5 u ((fB v sz).map (Value.int .u8)) := by unfold Row; rw [List.length_map, fB_len]; exact hr
 have hlen : ((fB v sz).map (Value.int .u8)).length = sz := by rw [List.length_map, fB_len]
 obtain ⟨gu, cu, rfl, _⟩ := hr2.head (by omega)
 rw [hlen] at hr2 ⊢
 have HR := hide hr2
 have HG : Hid (w1.heap[g]? = some (.cells cur.toArray 5 (0, 0))) := hide (HA.out.below hb)
 have HB : Hid (Below g w w1) := hide (hb.mono (Nat.le_of_lt HA.out.lt))
 have HL := hide hlen
 clear HX hr hr2 hb hlen HA
 have F1 : Hid (((fB v sz).map (Value.int .u8)).length = Nat.min sz dl) := hide (by rw [HL.out]; exact (Nat.min_eq_left hd).symm)
 have F2 : Hid (∀ j z, ((fB v sz).map (Value.int .u8))[j]? = some z → w1.cell? (Addr.add ⟨gu, 0, none⟩ j) = some z) := hide (fun j z hj => by
  have hj2 : j < sz := by
   rcases Nat.lt_or_ge j sz with h | h
   · exact h
   · rw [List.getElem?_eq_none (by rw [HL.out]; exact h)] at hj; cases hj
  rw [Addr.add_lit, Nat.zero_add, HR.out.cellAt (by rw [HL.out]; exact hj2)]
  exact hj)
 have F3 : Hid (off + ((fB v sz).map (Value.int .u8)).length ≤ cur.length) := hide (by rw [HL.out]; exact hf)
 have F4 : Hid (∀ z ∈ (fB v sz).map (Value.int .u8), z.oneCell' = true) := hide (fun z hz => by obtain ⟨y, _, rfl⟩ := List.mem_map.1 hz; rfl)
 clear HR HL
 go_wp2_with (refine wpList_copy_splice rfl (.tmp 14) (.tmp 15) 26 26 rfl 5 Tryd.underlying26 infoS8 (some ⟨g, off, none⟩) (some ⟨gu, 0, none⟩) dl cap sz cu rfl rfl g off cur 5 HG.out _ F1.out (fun _ => ⟨rfl, _, rfl, F2.out⟩) F3.out F4.out g w HB.out (Nat.le_refl _) ?_; intro w2 hg2 hb2)
 go_end0
 exact ⟨rfl, hg2.out, hb2⟩
/-- The bytes of a sector, ahead of its sum. -/
def hd8 (next : Int) (n : Nat) : List Int := fB next 4 ++ fB (n : Int) 2 ++ List.replicate 2 0
def hd12 (place next : Int) (n : Nat) : List Int := hd8 next n ++ fB place 4
def hd28 (hash : List Int) (place next : Int) (n : Nat) : List Int := hd12 place next n ++ hash.take 8 ++ List.replicate 8 0
def hdL (hash : List Int) (place next : Int) (ps : List Int) : List Int := hd28 hash place next ps.length ++ ps ++ List.replicate (480 - ps.length) 0
/-- A piece's sector. -/
def secL (hash : List Int) (place next : Int) (ps : List Int) : List Int := hdL hash place next ps ++ fB (sumOf [hdL hash place next ps]) 4
theorem hd28_len {hash : List Int} (hh : hash.length = 32) (place next : Int) (n : Nat) : (hd28 hash place next n).length = 28 := by
 simp [hd28, hd12, hd8, fB_len, hh]
theorem hdL_len {hash : List Int} (hh : hash.length = 32) (place next : Int) {ps : List Int} (hp : ps.length ≤ 480) : (hdL hash place next ps).length = 508 := by
 unfold hdL
 rw [List.length_append, List.length_append, hd28_len hh, List.length_replicate]
 omega
theorem secL_len {hash : List Int} (hh : hash.length = 32) (place next : Int) {ps : List Int} (hp : ps.length ≤ 480) : (secL hash place next ps).length = 512 := by
 unfold secL
 rw [List.length_append, hdL_len hh _ _ hp, fB_len]
theorem splice_zeros {A B : List Int} {n off : Nat} (ho : A.length = off) (hn : B.length ≤ n) : splice (A ++ List.replicate n 0) off B = A ++ B ++ List.replicate (n - B.length) 0 := by
 subst ho
 unfold splice
 rw [List.take_left', List.append_assoc]
 · congr 2
   rw [List.drop_append, List.drop_eq_nil_of_le (by omega), List.nil_append, List.drop_replicate]
   congr 1
   omega
 · rfl
theorem splice_map {A B : List Int} {off : Nat} : splice (A.map (Value.int .u8)) off (B.map (Value.int .u8)) = (splice A off B).map (Value.int .u8) := by
 unfold splice
 rw [List.map_append, List.map_append, List.map_take, List.map_drop, List.length_map]
theorem rep_more {A : List Int} {m k n : Nat} (h : m = k + n) : A ++ List.replicate m 0 = (A ++ List.replicate k 0) ++ List.replicate n 0 := by
 subst h
 rw [List.append_assoc, List.replicate_append_replicate]
/-- What has been laid into the sector, one behind the other. -/
def lz0 : List Int := List.replicate 512 0
def lz1 (next : Int) : List Int := splice lz0 0 (fB next 4)
def lz2 (next : Int) (n : Nat) : List Int := splice (lz1 next) 4 (fB (n : Int) 2)
def lz3 (place next : Int) (n : Nat) : List Int := splice (lz2 next n) 8 (fB place 4)
def lz4 (hash : List Int) (place next : Int) (n : Nat) : List Int := splice (lz3 place next n) 12 (hash.take 8)
def lz5 (hash : List Int) (place next : Int) (ps : List Int) : List Int := splice (lz4 hash place next ps.length) 28 ps
theorem lz_end {hash : List Int} (hh : hash.length = 32) (place next : Int) {ps : List Int} (hp : ps.length ≤ 480) : lz5 hash place next ps = hdL hash place next ps ++ List.replicate 4 0 := by
 have h1 : lz1 next = fB next 4 ++ List.replicate 508 0 := by
  have h := splice_zeros (A := []) (B := fB next 4) (n := 512) (off := 0) rfl (by rw [fB_len]; omega)
  rw [fB_len] at h
  exact h
 have h2 : lz2 next ps.length = fB next 4 ++ fB (ps.length : Int) 2 ++ List.replicate 506 0 := by
  have h := splice_zeros (A := fB next 4) (B := fB (ps.length : Int) 2) (n := 508) (off := 4) (fB_len _ _) (by rw [fB_len]; omega)
  rw [fB_len, ← h1] at h
  exact h
 have h3 : lz3 place next ps.length = hd12 place next ps.length ++ List.replicate 500 0 := by
  have h := splice_zeros (A := hd8 next ps.length) (B := fB place 4) (n := 504) (off := 8) (by simp [hd8, fB_len]) (by rw [fB_len]; omega)
  rw [fB_len] at h
  unfold hd8 at h
  rw [← rep_more (show 506 = 2 + 504 by rfl), ← h2] at h
  exact h
 have h4 : lz4 hash place next ps.length = hd12 place next ps.length ++ hash.take 8 ++ List.replicate 492 0 := by
  have hl : (hash.take 8).length = 8 := by rw [List.length_take, hh]; rfl
  have h := splice_zeros (A := hd12 place next ps.length) (B := hash.take 8) (n := 500) (off := 12) (by simp [hd12, hd8, fB_len]) (by rw [hl]; omega)
  rw [hl, ← h3] at h
  exact h
 have h := splice_zeros (A := hd28 hash place next ps.length) (B := ps) (n := 484) (off := 28) (hd28_len hh _ _ _) (by omega)
 unfold hd28 at h
 rw [← rep_more (show 492 = 8 + 484 by rfl), ← h4] at h
 have h6 : 484 - ps.length = (480 - ps.length) + 4 := by omega
 rw [h6, rep_more (A := hd12 place next ps.length ++ List.take 8 hash ++ List.replicate 8 0 ++ ps) rfl] at h
 exact h
theorem lz_take {hash : List Int} (hh : hash.length = 32) (place next : Int) {ps : List Int} (hp : ps.length ≤ 480) : (lz5 hash place next ps).take 508 = hdL hash place next ps := by
 rw [lz_end hh _ _ hp]
 exact List.take_left' (hdL_len hh _ _ hp)
theorem lz_sum {hash : List Int} (hh : hash.length = 32) (place next : Int) {ps : List Int} (hp : ps.length ≤ 480) : splice (lz5 hash place next ps) 508 (fB (sumOf [hdL hash place next ps]) 4) = secL hash place next ps := by
 rw [lz_end hh _ _ hp, splice_zeros (hdL_len hh _ _ hp) (by rw [fB_len]; omega), fB_len]
 unfold secL
 simp
end Go.Proofs.YtlofoklfggmbiaaDoor
