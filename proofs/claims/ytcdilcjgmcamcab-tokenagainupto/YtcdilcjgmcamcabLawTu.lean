/- The second form's bound, of tokens. -/
import Derived.Test.YtcdilcjgmcamcabLawTk
namespace Go.Proofs.Ytcdilcjgmcamcab
open Go.ChangeShapes Go.WideShapes Go.ChangeAt Go.RowKit Go.Deep

section
variable {H : Type} {enc : TypeId × Value → H}
theorem upto_le {L : List (DataW H)} (h : Rows.uptoSmall H L = true) : Rows.uptoBulkAll L ≤ 1048576 := of_decide_eq_true h
theorem upto_part {L : List (DataW H)} {d : DataW H} (hd : d ∈ L) : Rows.uptoBulk d ≤ Rows.uptoBulkAll L := by
  induction L with
  | nil => simp at hd
  | cons a t ih =>
    simp only [Rows.uptoBulkAll]
    rcases List.mem_cons.1 hd with rfl | hd
    · omega
    · have := ih hd
      omega
theorem upto_toks {L : List (DataW H)} (hL : Rows.uptoBulkAll L ≤ 1048576) {d : DataW H} {ss : List Tok} (hd : d ∈ L) (h : ss = [] ∨ ∃ spare, d = .slice (ss.map tokD) spare) : ∀ t ∈ ss, t.text.size ≤ 1048576 := by
  rcases h with rfl | ⟨spare, rfl⟩
  · simp
  · intro t ht
    have h1 := upto_part hd
    have h2 := upto_part (List.mem_map_of_mem (f := tokD (H := H)) ht)
    simp only [Rows.uptoBulk] at h1
    simp only [tokD, Rows.uptoBulk, Rows.uptoBulkAll] at h2
    have h3 : t.text.data.toList.length = t.text.size := len_data t.text
    omega
end
end Go.Proofs.Ytcdilcjgmcamcab
