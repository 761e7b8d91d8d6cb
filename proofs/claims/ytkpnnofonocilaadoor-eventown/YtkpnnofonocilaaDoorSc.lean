/- What ParseSchema answers, by the pieces that the bytes make. -/
import Derived.Test.YtkpnnofonocilaaDoorCp
import Derived.Test.YtkpnnofonocilaaDoorPs
namespace Go.Proofs.YtkpnnofonocilaaDoor
open Go.RowKit Go.BigFrame
set_option linter.unusedVariables false
set_option linter.unusedSimpArgs false

theorem ext_list (s : ByteArray) (a e : Nat) (h : a < e) (he : e ≤ s.size) : (s.extract a e).toList = s.data[a]'(Nat.lt_of_lt_of_le h he) :: (s.extract (a + 1) e).toList := by
  rw [Lib.toList_data, Lib.toList_data]
  simp only [ByteArray.data_extract]
  rw [Array.toList_extract, Array.toList_extract]
  simp only [List.extract]
  rw [List.drop_eq_getElem_cons (by rw [Array.length_toList]; exact Nat.lt_of_lt_of_le h he), show e - a = (e - (a + 1)) + 1 by omega, List.take_succ_cons]
  simp
def scR (s : ByteArray) : List Ty × Int × Int := if 4096 < s.size then ([], 20, 4096) else rdO (refL s (cutL s s.size 0))
theorem scR_eq (s : ByteArray) : scR s = scO s := by
  unfold scR scO
  split
  · rfl
  · have h := rdS_sim 17 [] _ _ (sim_cut s s.size 0 s.size s.size (by omega) (Nat.zero_le _) (by omega) (by omega))
    unfold rdO
    rw [h.1, h.2.place]

end Go.Proofs.YtkpnnofonocilaaDoor
