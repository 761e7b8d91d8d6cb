/- For every three values, known or not, the law NumLattice returns true where num's tables hold what their text lays (the card ties that to the text): And and Or are a distributive lattice that Not turns over, and True goes through both. No other condition. -/
import Derived.Test.YtcjldhnjcmhfhaaDoorLatt
import Derived.Test.YtcjldhnjcmhfhaaDoorDoorTab
import Derived.Test.YtcjldhnjcmhfhaaDoorExt
import Derived.Test.YtcjldhnjcmhfhaaDoorNumber
import Derived.Test.YtcjldhnjcmhfhaaDoorCards
import Derived.Test.YtcjldhnjcmhfhaaDoorTie
import Derived.Lib.SmallJoins
import Derived.Deep.DeepHandedRow
import Derived.Deep.CutRange
import Derived.OpenShut
import Derived.Carry
namespace Go.Proofs.YtcjldhnjcmhfhaaDoor.numLattice
open Go.ChangeShapes Go.WideShapes Go.ChangeAt Go.RowKit Go.BigFrame
set_option linter.unusedVariables false
set_option linter.unusedSimpArgs false

set_option maxRecDepth 20000 in
set_option maxHeartbeats 8000000 in
theorem walk (ka : Bool) (a : Int) (w0 : (Lit.int .i64 a).wf = true) (kb : Bool) (b : Int) (w1 : (Lit.int .i64 b).wf = true) (kc : Bool) (c : Int) (w2 : (Lit.int .i64 c).wf = true) (w : World) (T : Tabs w) (TN : TabN w) :
    Calls Tryd.prog 3 #[.agg #[.bool ka, .int .i64 a], .agg #[.bool kb, .int .i64 b], .agg #[.bool kc, .int .i64 c]] w fun e w' => e = .returned (.bool true) ∧ Below w.heap.size w w' := by
  clear w0 w1 w2
  have EK0 : (aK true 1 true 1) = true := by decide
  have EN0 : (aN true 1 true 1) = 1 := by decide
  have EK1 : (oK true 0 true 0) = true := by decide
  have EN1 : (oN true 0 true 0) = 0 := by decide
  have EK2 : (aK true 0 false 0) = true := by decide
  have EN2 : (aN true 0 false 0) = 0 := by decide
  have EK3 : (oK true 1 false 0) = true := by decide
  have EN3 : (oN true 1 false 0) = 1 := by decide
  have EK4 : (aK kb b ka a) = (aK ka a kb b) := by exact congrArg vK (comm_a _ _)
  have EN4 : (aN kb b ka a) = (aN ka a kb b) := by exact congrArg vN (comm_a _ _)
  have EK5 : (oK kb b ka a) = (oK ka a kb b) := by exact congrArg vK (comm_o _ _)
  have EN5 : (oN kb b ka a) = (oN ka a kb b) := by exact congrArg vN (comm_o _ _)
  have EK6 : (aK (aK ka a kb b) (aN ka a kb b) kc c) = (aK ka a (aK kb b kc c) (aN kb b kc c)) := by exact congrArg vK (by simp only [rd_a, rd_o, rd_n, rd_yes, rd_no, rd_un]; exact asso_a _ _ _)
  have EN6 : (aN (aK ka a kb b) (aN ka a kb b) kc c) = (aN ka a (aK kb b kc c) (aN kb b kc c)) := by exact congrArg vN (by simp only [rd_a, rd_o, rd_n, rd_yes, rd_no, rd_un]; exact asso_a _ _ _)
  have EK7 : (oK (oK ka a kb b) (oN ka a kb b) kc c) = (oK ka a (oK kb b kc c) (oN kb b kc c)) := by exact congrArg vK (by simp only [rd_a, rd_o, rd_n, rd_yes, rd_no, rd_un]; exact asso_o _ _ _)
  have EN7 : (oN (oK ka a kb b) (oN ka a kb b) kc c) = (oN ka a (oK kb b kc c) (oN kb b kc c)) := by exact congrArg vN (by simp only [rd_a, rd_o, rd_n, rd_yes, rd_no, rd_un]; exact asso_o _ _ _)
  have EK8 : (oK (aK ka a kb b) (aN ka a kb b) (aK ka a kc c) (aN ka a kc c)) = (aK ka a (oK kb b kc c) (oN kb b kc c)) := by exact congrArg vK (by simp only [rd_a, rd_o, rd_n, rd_yes, rd_no, rd_un]; exact dist_a _ _ _)
  have EN8 : (oN (aK ka a kb b) (aN ka a kb b) (aK ka a kc c) (aN ka a kc c)) = (aN ka a (oK kb b kc c) (oN kb b kc c)) := by exact congrArg vN (by simp only [rd_a, rd_o, rd_n, rd_yes, rd_no, rd_un]; exact dist_a _ _ _)
  have EK9 : (aK (oK ka a kb b) (oN ka a kb b) (oK ka a kc c) (oN ka a kc c)) = (oK ka a (aK kb b kc c) (aN kb b kc c)) := by exact congrArg vK (by simp only [rd_a, rd_o, rd_n, rd_yes, rd_no, rd_un]; exact dist_o _ _ _)
  have EN9 : (aN (oK ka a kb b) (oN ka a kb b) (oK ka a kc c) (oN ka a kc c)) = (oN ka a (aK kb b kc c) (aN kb b kc c)) := by exact congrArg vN (by simp only [rd_a, rd_o, rd_n, rd_yes, rd_no, rd_un]; exact dist_o _ _ _)
  have EK10 : (aK ka a true 1) = ka := by refine Eq.trans (congrArg vK (?_ : _ = rd ka a)) (vK_rd ka a); simp only [rd_a, rd_o, rd_n, rd_yes, rd_no, rd_un]; exact top_a _ _
  have EN10 : (aN ka a true 1) = (vN (rd ka a)) := by refine congrArg vN (?_ : _ = rd ka a); simp only [rd_a, rd_o, rd_n, rd_yes, rd_no, rd_un]; exact top_a _ _
  have EK11 : (oK ka a true 0) = ka := by refine Eq.trans (congrArg vK (?_ : _ = rd ka a)) (vK_rd ka a); simp only [rd_a, rd_o, rd_n, rd_yes, rd_no, rd_un]; exact bot_o _ _
  have EN11 : (oN ka a true 0) = (vN (rd ka a)) := by refine congrArg vN (?_ : _ = rd ka a); simp only [rd_a, rd_o, rd_n, rd_yes, rd_no, rd_un]; exact bot_o _ _
  have EK12 : (aK ka a (oK ka a kb b) (oN ka a kb b)) = ka := by refine Eq.trans (congrArg vK (?_ : _ = rd ka a)) (vK_rd ka a); simp only [rd_a, rd_o, rd_n, rd_yes, rd_no, rd_un]; exact swal_a _ _
  have EN12 : (aN ka a (oK ka a kb b) (oN ka a kb b)) = (vN (rd ka a)) := by refine congrArg vN (?_ : _ = rd ka a); simp only [rd_a, rd_o, rd_n, rd_yes, rd_no, rd_un]; exact swal_a _ _
  have EK13 : (oK ka a (aK ka a kb b) (aN ka a kb b)) = ka := by refine Eq.trans (congrArg vK (?_ : _ = rd ka a)) (vK_rd ka a); simp only [rd_a, rd_o, rd_n, rd_yes, rd_no, rd_un]; exact swal_o _ _
  have EN13 : (oN ka a (aK ka a kb b) (aN ka a kb b)) = (vN (rd ka a)) := by refine congrArg vN (?_ : _ = rd ka a); simp only [rd_a, rd_o, rd_n, rd_yes, rd_no, rd_un]; exact swal_o _ _
  have EK14 : (nK (nK ka a) (nN ka a)) = ka := by refine Eq.trans (congrArg vK (?_ : _ = rd ka a)) (vK_rd ka a); simp only [rd_a, rd_o, rd_n, rd_yes, rd_no, rd_un]; omega
  have EN14 : (nN (nK ka a) (nN ka a)) = (vN (rd ka a)) := by refine congrArg vN (?_ : _ = rd ka a); simp only [rd_a, rd_o, rd_n, rd_yes, rd_no, rd_un]; omega
  have EK15 : (nK (aK ka a kb b) (aN ka a kb b)) = (oK (nK ka a) (nN ka a) (nK kb b) (nN kb b)) := by exact congrArg vK (by simp only [rd_a, rd_o, rd_n, rd_yes, rd_no, rd_un]; exact demo_a _ _)
  have EN15 : (nN (aK ka a kb b) (aN ka a kb b)) = (oN (nK ka a) (nN ka a) (nK kb b) (nN kb b)) := by exact congrArg vN (by simp only [rd_a, rd_o, rd_n, rd_yes, rd_no, rd_un]; exact demo_a _ _)
  have EK16 : (nK (oK ka a kb b) (oN ka a kb b)) = (aK (nK ka a) (nN ka a) (nK kb b) (nN kb b)) := by exact congrArg vK (by simp only [rd_a, rd_o, rd_n, rd_yes, rd_no, rd_un]; exact demo_o _ _)
  have EN16 : (nN (oK ka a kb b) (oN ka a kb b)) = (aN (nK ka a) (nN ka a) (nK kb b) (nN kb b)) := by exact congrArg vN (by simp only [rd_a, rd_o, rd_n, rd_yes, rd_no, rd_un]; exact demo_o _ _)
  have ET : Hid (tr (aK ka a kb b) (aN ka a kb b) = (tr ka a && tr kb b)) := true_a ka a kb b
  have EO : Hid (tr (oK ka a kb b) (oN ka a kb b) = (tr ka a || tr kb b)) := true_o ka a kb b
  go_enter Tryd.func3, Tryd.ntmps3
  go_upto_region 1 with fail
  have B := (galloc (galloc (galloc (Below.refl w.heap.size w) (.cells #[.bool ka, .int .i64 a] 23)) (.cells #[.bool kb, .int .i64 b] 23)) (.cells #[.bool kc, .int .i64 c] 23))
  have ra0 : (((w.alloc (.cells #[.bool ka, .int .i64 a] 23)).alloc (.cells #[.bool kb, .int .i64 b] 23)).alloc (.cells #[.bool kc, .int .i64 c] 23)).cell? ⟨w.heap.size, 0, none⟩ = some (.bool ka) := by go_simp
  have ra1 : (((w.alloc (.cells #[.bool ka, .int .i64 a] 23)).alloc (.cells #[.bool kb, .int .i64 b] 23)).alloc (.cells #[.bool kc, .int .i64 c] 23)).cell? ⟨w.heap.size, 1, none⟩ = some (.int .i64 a) := by go_simp
  have sa : w.heap.size < (((w.alloc (.cells #[.bool ka, .int .i64 a] 23)).alloc (.cells #[.bool kb, .int .i64 b] 23)).alloc (.cells #[.bool kc, .int .i64 c] 23)).heap.size := by first | (simp; done) | (simp; omega)
  have rb0 : (((w.alloc (.cells #[.bool ka, .int .i64 a] 23)).alloc (.cells #[.bool kb, .int .i64 b] 23)).alloc (.cells #[.bool kc, .int .i64 c] 23)).cell? ⟨w.heap.size + 1, 0, none⟩ = some (.bool kb) := by go_simp
  have rb1 : (((w.alloc (.cells #[.bool ka, .int .i64 a] 23)).alloc (.cells #[.bool kb, .int .i64 b] 23)).alloc (.cells #[.bool kc, .int .i64 c] 23)).cell? ⟨w.heap.size + 1, 1, none⟩ = some (.int .i64 b) := by go_simp
  have sb : w.heap.size + 1 < (((w.alloc (.cells #[.bool ka, .int .i64 a] 23)).alloc (.cells #[.bool kb, .int .i64 b] 23)).alloc (.cells #[.bool kc, .int .i64 c] 23)).heap.size := by first | (simp; done) | (simp; omega)
  have rc0 : (((w.alloc (.cells #[.bool ka, .int .i64 a] 23)).alloc (.cells #[.bool kb, .int .i64 b] 23)).alloc (.cells #[.bool kc, .int .i64 c] 23)).cell? ⟨w.heap.size + 1 + 1, 0, none⟩ = some (.bool kc) := by go_simp
  have rc1 : (((w.alloc (.cells #[.bool ka, .int .i64 a] 23)).alloc (.cells #[.bool kb, .int .i64 b] 23)).alloc (.cells #[.bool kc, .int .i64 c] 23)).cell? ⟨w.heap.size + 1 + 1, 1, none⟩ = some (.int .i64 c) := by go_simp
  have sc : w.heap.size + 1 + 1 < (((w.alloc (.cells #[.bool ka, .int .i64 a] 23)).alloc (.cells #[.bool kb, .int .i64 b] 23)).alloc (.cells #[.bool kc, .int .i64 c] 23)).heap.size := by first | (simp; done) | (simp; omega)
  generalize (((w.alloc (.cells #[.bool ka, .int .i64 a] 23)).alloc (.cells #[.bool kb, .int .i64 b] 23)).alloc (.cells #[.bool kc, .int .i64 c] 23)) = V0 at *
  have G := Below.refl V0.heap.size V0
  go_upto_region 2 with (first | (go_at_call 4; refine (number_any _ _).mono ?_; rintro e u0 ⟨rfl, g⟩; replace G := gtrans G g; obtain ⟨hc, hf⟩ := bcell G))
  replace ra0 := kold G (.cells #[.bool true, .int .i64 1] 23) sa ra0
  replace ra1 := kold G (.cells #[.bool true, .int .i64 1] 23) sa ra1
  replace sa := ksize G (.cells #[.bool true, .int .i64 1] 23) sa
  replace rb0 := kold G (.cells #[.bool true, .int .i64 1] 23) sb rb0
  replace rb1 := kold G (.cells #[.bool true, .int .i64 1] 23) sb rb1
  replace sb := ksize G (.cells #[.bool true, .int .i64 1] 23) sb
  replace rc0 := kold G (.cells #[.bool true, .int .i64 1] 23) sc rc0
  replace rc1 := kold G (.cells #[.bool true, .int .i64 1] 23) sc rc1
  replace sc := ksize G (.cells #[.bool true, .int .i64 1] 23) sc
  replace B := galloc (gtrans B G) (.cells #[.bool true, .int .i64 1] 23)
  have ryes0 := knew u0 #[.bool true, .int .i64 1] 23 0 _ rfl
  have ryes1 := knew u0 #[.bool true, .int .i64 1] 23 1 _ rfl
  have syes := ksnew u0 (.cells #[.bool true, .int .i64 1] 23)
  clear G
  generalize (u0.alloc (.cells #[.bool true, .int .i64 1] 23)) = V1 at *
  have G := Below.refl V1.heap.size V1
  go_upto_region 3 with (first | (go_at_call 4; refine (number_any _ _).mono ?_; rintro e u1 ⟨rfl, g⟩; replace G := gtrans G g; obtain ⟨hc, hf⟩ := bcell G))
  replace ra0 := kold G (.cells #[.bool true, .int .i64 0] 23) sa ra0
  replace ra1 := kold G (.cells #[.bool true, .int .i64 0] 23) sa ra1
  replace sa := ksize G (.cells #[.bool true, .int .i64 0] 23) sa
  replace rb0 := kold G (.cells #[.bool true, .int .i64 0] 23) sb rb0
  replace rb1 := kold G (.cells #[.bool true, .int .i64 0] 23) sb rb1
  replace sb := ksize G (.cells #[.bool true, .int .i64 0] 23) sb
  replace rc0 := kold G (.cells #[.bool true, .int .i64 0] 23) sc rc0
  replace rc1 := kold G (.cells #[.bool true, .int .i64 0] 23) sc rc1
  replace sc := ksize G (.cells #[.bool true, .int .i64 0] 23) sc
  replace ryes0 := kold G (.cells #[.bool true, .int .i64 0] 23) syes ryes0
  replace ryes1 := kold G (.cells #[.bool true, .int .i64 0] 23) syes ryes1
  replace syes := ksize G (.cells #[.bool true, .int .i64 0] 23) syes
  replace B := galloc (gtrans B G) (.cells #[.bool true, .int .i64 0] 23)
  have rno0 := knew u1 #[.bool true, .int .i64 0] 23 0 _ rfl
  have rno1 := knew u1 #[.bool true, .int .i64 0] 23 1 _ rfl
  have sno := ksnew u1 (.cells #[.bool true, .int .i64 0] 23)
  clear G
  generalize (u1.alloc (.cells #[.bool true, .int .i64 0] 23)) = V2 at *
  have G := Below.refl V2.heap.size V2
  have xa0 := fun (n : Ext V2) => (n.cell _ _ sa).trans ra0
  have xa1 := fun (n : Ext V2) => (n.cell _ _ sa).trans ra1
  have xb0 := fun (n : Ext V2) => (n.cell _ _ sb).trans rb0
  have xb1 := fun (n : Ext V2) => (n.cell _ _ sb).trans rb1
  have xc0 := fun (n : Ext V2) => (n.cell _ _ sc).trans rc0
  have xc1 := fun (n : Ext V2) => (n.cell _ _ sc).trans rc1
  have xyes0 := fun (n : Ext V2) => (n.cell _ _ syes).trans ryes0
  have xyes1 := fun (n : Ext V2) => (n.cell _ _ syes).trans ryes1
  have xno0 := fun (n : Ext V2) => (n.cell _ _ sno).trans rno0
  have xno1 := fun (n : Ext V2) => (n.cell _ _ sno).trans rno1
  have hne : Nonempty (Ext V2) := ⟨⟨_, Below.refl _ _⟩⟩
  refine wp_region_ext (by kernel_rfl) (by kernel_rfl) ?_
  repeat (go_big_quiet_step (first | (go_at_call 5; exact ext_of (and_op _ _ _ _ _ (T.keep (gtrans B (Ext.h _))))) | (go_at_call 6; exact ext_of (or_op _ _ _ _ _ (T.keep (gtrans B (Ext.h _))))) | (go_at_call 7; exact ext_of (not_op _ _ _ (TN.keep (gtrans B (Ext.h _))))) | (go_at_call 8; exact ext_of (true_op _ _ _))))
  refine wpQuiet_nil ?_
  intro _ hw'
  obtain ⟨nxw, hw''⟩ := hw'
  subst hw''
  replace ra0 := xa0 nxw
  replace ra1 := xa1 nxw
  replace sa := Nat.lt_of_lt_of_le sa nxw.h.size
  clear xa0 xa1
  replace rb0 := xb0 nxw
  replace rb1 := xb1 nxw
  replace sb := Nat.lt_of_lt_of_le sb nxw.h.size
  clear xb0 xb1
  replace rc0 := xc0 nxw
  replace rc1 := xc1 nxw
  replace sc := Nat.lt_of_lt_of_le sc nxw.h.size
  clear xc0 xc1
  replace ryes0 := xyes0 nxw
  replace ryes1 := xyes1 nxw
  replace syes := Nat.lt_of_lt_of_le syes nxw.h.size
  clear xyes0 xyes1
  replace rno0 := xno0 nxw
  replace rno1 := xno1 nxw
  replace sno := Nat.lt_of_lt_of_le sno nxw.h.size
  clear xno0 xno1
  replace B := gtrans B nxw.h
  clear hne
  clear G
  obtain ⟨X2, hX⟩ := nxw
  dsimp only at *
  clear hX
  have G := Below.refl X2.heap.size X2
  go_upto_region 5 with fail
  go_upto_region 6 with (first | (go_at_call 5; refine (and_op _ _ _ _ _ (T.keep (gtrans B G))).mono ?_; rintro e u3 ⟨rfl, g⟩; replace G := gtrans G g; obtain ⟨hc, hf⟩ := bcell G) | (go_at_call 6; refine (or_op _ _ _ _ _ (T.keep (gtrans B G))).mono ?_; rintro e u3 ⟨rfl, g⟩; replace G := gtrans G g; obtain ⟨hc, hf⟩ := bcell G))
  replace ra0 := kold G (.cells #[.bool (aK ka a kb b), .int .i64 (aN ka a kb b)] 23) sa ra0
  replace ra1 := kold G (.cells #[.bool (aK ka a kb b), .int .i64 (aN ka a kb b)] 23) sa ra1
  replace sa := ksize G (.cells #[.bool (aK ka a kb b), .int .i64 (aN ka a kb b)] 23) sa
  replace rb0 := kold G (.cells #[.bool (aK ka a kb b), .int .i64 (aN ka a kb b)] 23) sb rb0
  replace rb1 := kold G (.cells #[.bool (aK ka a kb b), .int .i64 (aN ka a kb b)] 23) sb rb1
  replace sb := ksize G (.cells #[.bool (aK ka a kb b), .int .i64 (aN ka a kb b)] 23) sb
  replace rc0 := kold G (.cells #[.bool (aK ka a kb b), .int .i64 (aN ka a kb b)] 23) sc rc0
  replace rc1 := kold G (.cells #[.bool (aK ka a kb b), .int .i64 (aN ka a kb b)] 23) sc rc1
  replace sc := ksize G (.cells #[.bool (aK ka a kb b), .int .i64 (aN ka a kb b)] 23) sc
  replace ryes0 := kold G (.cells #[.bool (aK ka a kb b), .int .i64 (aN ka a kb b)] 23) syes ryes0
  replace ryes1 := kold G (.cells #[.bool (aK ka a kb b), .int .i64 (aN ka a kb b)] 23) syes ryes1
  replace syes := ksize G (.cells #[.bool (aK ka a kb b), .int .i64 (aN ka a kb b)] 23) syes
  replace rno0 := kold G (.cells #[.bool (aK ka a kb b), .int .i64 (aN ka a kb b)] 23) sno rno0
  replace rno1 := kold G (.cells #[.bool (aK ka a kb b), .int .i64 (aN ka a kb b)] 23) sno rno1
  replace sno := ksize G (.cells #[.bool (aK ka a kb b), .int .i64 (aN ka a kb b)] 23) sno
  replace B := galloc (gtrans B G) (.cells #[.bool (aK ka a kb b), .int .i64 (aN ka a kb b)] 23)
  have rand0 := knew u3 #[.bool (aK ka a kb b), .int .i64 (aN ka a kb b)] 23 0 _ rfl
  have rand1 := knew u3 #[.bool (aK ka a kb b), .int .i64 (aN ka a kb b)] 23 1 _ rfl
  have sand := ksnew u3 (.cells #[.bool (aK ka a kb b), .int .i64 (aN ka a kb b)] 23)
  clear G
  generalize (u3.alloc (.cells #[.bool (aK ka a kb b), .int .i64 (aN ka a kb b)] 23)) = V4 at *
  have G := Below.refl V4.heap.size V4
  go_upto_region 7 with (first | (go_at_call 5; refine (and_op _ _ _ _ _ (T.keep (gtrans B G))).mono ?_; rintro e u4 ⟨rfl, g⟩; replace G := gtrans G g; obtain ⟨hc, hf⟩ := bcell G) | (go_at_call 6; refine (or_op _ _ _ _ _ (T.keep (gtrans B G))).mono ?_; rintro e u4 ⟨rfl, g⟩; replace G := gtrans G g; obtain ⟨hc, hf⟩ := bcell G))
  replace ra0 := kold G (.cells #[.bool (oK ka a kb b), .int .i64 (oN ka a kb b)] 23) sa ra0
  replace ra1 := kold G (.cells #[.bool (oK ka a kb b), .int .i64 (oN ka a kb b)] 23) sa ra1
  replace sa := ksize G (.cells #[.bool (oK ka a kb b), .int .i64 (oN ka a kb b)] 23) sa
  replace rb0 := kold G (.cells #[.bool (oK ka a kb b), .int .i64 (oN ka a kb b)] 23) sb rb0
  replace rb1 := kold G (.cells #[.bool (oK ka a kb b), .int .i64 (oN ka a kb b)] 23) sb rb1
  replace sb := ksize G (.cells #[.bool (oK ka a kb b), .int .i64 (oN ka a kb b)] 23) sb
  replace rc0 := kold G (.cells #[.bool (oK ka a kb b), .int .i64 (oN ka a kb b)] 23) sc rc0
  replace rc1 := kold G (.cells #[.bool (oK ka a kb b), .int .i64 (oN ka a kb b)] 23) sc rc1
  replace sc := ksize G (.cells #[.bool (oK ka a kb b), .int .i64 (oN ka a kb b)] 23) sc
  replace ryes0 := kold G (.cells #[.bool (oK ka a kb b), .int .i64 (oN ka a kb b)] 23) syes ryes0
  replace ryes1 := kold G (.cells #[.bool (oK ka a kb b), .int .i64 (oN ka a kb b)] 23) syes ryes1
  replace syes := ksize G (.cells #[.bool (oK ka a kb b), .int .i64 (oN ka a kb b)] 23) syes
  replace rno0 := kold G (.cells #[.bool (oK ka a kb b), .int .i64 (oN ka a kb b)] 23) sno rno0
  replace rno1 := kold G (.cells #[.bool (oK ka a kb b), .int .i64 (oN ka a kb b)] 23) sno rno1
  replace sno := ksize G (.cells #[.bool (oK ka a kb b), .int .i64 (oN ka a kb b)] 23) sno
  replace rand0 := kold G (.cells #[.bool (oK ka a kb b), .int .i64 (oN ka a kb b)] 23) sand rand0
  replace rand1 := kold G (.cells #[.bool (oK ka a kb b), .int .i64 (oN ka a kb b)] 23) sand rand1
  replace sand := ksize G (.cells #[.bool (oK ka a kb b), .int .i64 (oN ka a kb b)] 23) sand
  replace B := galloc (gtrans B G) (.cells #[.bool (oK ka a kb b), .int .i64 (oN ka a kb b)] 23)
  have ror0 := knew u4 #[.bool (oK ka a kb b), .int .i64 (oN ka a kb b)] 23 0 _ rfl
  have ror1 := knew u4 #[.bool (oK ka a kb b), .int .i64 (oN ka a kb b)] 23 1 _ rfl
  have sor := ksnew u4 (.cells #[.bool (oK ka a kb b), .int .i64 (oN ka a kb b)] 23)
  clear G
  generalize (u4.alloc (.cells #[.bool (oK ka a kb b), .int .i64 (oN ka a kb b)] 23)) = V5 at *
  have G := Below.refl V5.heap.size V5
  have xa0 := fun (n : Ext V5) => (n.cell _ _ sa).trans ra0
  have xa1 := fun (n : Ext V5) => (n.cell _ _ sa).trans ra1
  have xb0 := fun (n : Ext V5) => (n.cell _ _ sb).trans rb0
  have xb1 := fun (n : Ext V5) => (n.cell _ _ sb).trans rb1
  have xc0 := fun (n : Ext V5) => (n.cell _ _ sc).trans rc0
  have xc1 := fun (n : Ext V5) => (n.cell _ _ sc).trans rc1
  have xyes0 := fun (n : Ext V5) => (n.cell _ _ syes).trans ryes0
  have xyes1 := fun (n : Ext V5) => (n.cell _ _ syes).trans ryes1
  have xno0 := fun (n : Ext V5) => (n.cell _ _ sno).trans rno0
  have xno1 := fun (n : Ext V5) => (n.cell _ _ sno).trans rno1
  have xand0 := fun (n : Ext V5) => (n.cell _ _ sand).trans rand0
  have xand1 := fun (n : Ext V5) => (n.cell _ _ sand).trans rand1
  have xor0 := fun (n : Ext V5) => (n.cell _ _ sor).trans ror0
  have xor1 := fun (n : Ext V5) => (n.cell _ _ sor).trans ror1
  have hne : Nonempty (Ext V5) := ⟨⟨_, Below.refl _ _⟩⟩
  refine wp_region_ext (by kernel_rfl) (by kernel_rfl) ?_
  repeat (go_big_quiet_step (first | (go_at_call 5; exact ext_of (and_op _ _ _ _ _ (T.keep (gtrans B (Ext.h _))))) | (go_at_call 6; exact ext_of (or_op _ _ _ _ _ (T.keep (gtrans B (Ext.h _))))) | (go_at_call 7; exact ext_of (not_op _ _ _ (TN.keep (gtrans B (Ext.h _))))) | (go_at_call 8; exact ext_of (true_op _ _ _))))
  refine wpQuiet_nil ?_
  intro _ hw'
  obtain ⟨nxw, hw''⟩ := hw'
  subst hw''
  replace ra0 := xa0 nxw
  replace ra1 := xa1 nxw
  replace sa := Nat.lt_of_lt_of_le sa nxw.h.size
  clear xa0 xa1
  replace rb0 := xb0 nxw
  replace rb1 := xb1 nxw
  replace sb := Nat.lt_of_lt_of_le sb nxw.h.size
  clear xb0 xb1
  replace rc0 := xc0 nxw
  replace rc1 := xc1 nxw
  replace sc := Nat.lt_of_lt_of_le sc nxw.h.size
  clear xc0 xc1
  replace ryes0 := xyes0 nxw
  replace ryes1 := xyes1 nxw
  replace syes := Nat.lt_of_lt_of_le syes nxw.h.size
  clear xyes0 xyes1
  replace rno0 := xno0 nxw
  replace rno1 := xno1 nxw
  replace sno := Nat.lt_of_lt_of_le sno nxw.h.size
  clear xno0 xno1
  replace rand0 := xand0 nxw
  replace rand1 := xand1 nxw
  replace sand := Nat.lt_of_lt_of_le sand nxw.h.size
  clear xand0 xand1
  replace ror0 := xor0 nxw
  replace ror1 := xor1 nxw
  replace sor := Nat.lt_of_lt_of_le sor nxw.h.size
  clear xor0 xor1
  replace B := gtrans B nxw.h
  clear hne
  clear G
  obtain ⟨X5, hX⟩ := nxw
  dsimp only at *
  clear hX
  have G := Below.refl X5.heap.size X5
  go_upto_region 9 with fail
  have xa0 := fun (n : Ext X5) => (n.cell _ _ sa).trans ra0
  have xa1 := fun (n : Ext X5) => (n.cell _ _ sa).trans ra1
  have xb0 := fun (n : Ext X5) => (n.cell _ _ sb).trans rb0
  have xb1 := fun (n : Ext X5) => (n.cell _ _ sb).trans rb1
  have xc0 := fun (n : Ext X5) => (n.cell _ _ sc).trans rc0
  have xc1 := fun (n : Ext X5) => (n.cell _ _ sc).trans rc1
  have xyes0 := fun (n : Ext X5) => (n.cell _ _ syes).trans ryes0
  have xyes1 := fun (n : Ext X5) => (n.cell _ _ syes).trans ryes1
  have xno0 := fun (n : Ext X5) => (n.cell _ _ sno).trans rno0
  have xno1 := fun (n : Ext X5) => (n.cell _ _ sno).trans rno1
  have xand0 := fun (n : Ext X5) => (n.cell _ _ sand).trans rand0
  have xand1 := fun (n : Ext X5) => (n.cell _ _ sand).trans rand1
  have xor0 := fun (n : Ext X5) => (n.cell _ _ sor).trans ror0
  have xor1 := fun (n : Ext X5) => (n.cell _ _ sor).trans ror1
  have hne : Nonempty (Ext X5) := ⟨⟨_, Below.refl _ _⟩⟩
  refine wp_region_ext (by kernel_rfl) (by kernel_rfl) ?_
  repeat (go_big_quiet_step (first | (go_at_call 5; exact ext_of (and_op _ _ _ _ _ (T.keep (gtrans B (Ext.h _))))) | (go_at_call 6; exact ext_of (or_op _ _ _ _ _ (T.keep (gtrans B (Ext.h _))))) | (go_at_call 7; exact ext_of (not_op _ _ _ (TN.keep (gtrans B (Ext.h _))))) | (go_at_call 8; exact ext_of (true_op _ _ _))))
  refine wpQuiet_nil ?_
  intro _ hw'
  obtain ⟨nxw, hw''⟩ := hw'
  subst hw''
  replace ra0 := xa0 nxw
  replace ra1 := xa1 nxw
  replace sa := Nat.lt_of_lt_of_le sa nxw.h.size
  clear xa0 xa1
  replace rb0 := xb0 nxw
  replace rb1 := xb1 nxw
  replace sb := Nat.lt_of_lt_of_le sb nxw.h.size
  clear xb0 xb1
  replace rc0 := xc0 nxw
  replace rc1 := xc1 nxw
  replace sc := Nat.lt_of_lt_of_le sc nxw.h.size
  clear xc0 xc1
  replace ryes0 := xyes0 nxw
  replace ryes1 := xyes1 nxw
  replace syes := Nat.lt_of_lt_of_le syes nxw.h.size
  clear xyes0 xyes1
  replace rno0 := xno0 nxw
  replace rno1 := xno1 nxw
  replace sno := Nat.lt_of_lt_of_le sno nxw.h.size
  clear xno0 xno1
  replace rand0 := xand0 nxw
  replace rand1 := xand1 nxw
  replace sand := Nat.lt_of_lt_of_le sand nxw.h.size
  clear xand0 xand1
  replace ror0 := xor0 nxw
  replace ror1 := xor1 nxw
  replace sor := Nat.lt_of_lt_of_le sor nxw.h.size
  clear xor0 xor1
  replace B := gtrans B nxw.h
  clear hne
  clear G
  obtain ⟨X6, hX⟩ := nxw
  dsimp only at *
  clear hX
  have G := Below.refl X6.heap.size X6
  go_upto_region 11 with fail
  have xa0 := fun (n : Ext X6) => (n.cell _ _ sa).trans ra0
  have xa1 := fun (n : Ext X6) => (n.cell _ _ sa).trans ra1
  have xb0 := fun (n : Ext X6) => (n.cell _ _ sb).trans rb0
  have xb1 := fun (n : Ext X6) => (n.cell _ _ sb).trans rb1
  have xc0 := fun (n : Ext X6) => (n.cell _ _ sc).trans rc0
  have xc1 := fun (n : Ext X6) => (n.cell _ _ sc).trans rc1
  have xyes0 := fun (n : Ext X6) => (n.cell _ _ syes).trans ryes0
  have xyes1 := fun (n : Ext X6) => (n.cell _ _ syes).trans ryes1
  have xno0 := fun (n : Ext X6) => (n.cell _ _ sno).trans rno0
  have xno1 := fun (n : Ext X6) => (n.cell _ _ sno).trans rno1
  have xand0 := fun (n : Ext X6) => (n.cell _ _ sand).trans rand0
  have xand1 := fun (n : Ext X6) => (n.cell _ _ sand).trans rand1
  have xor0 := fun (n : Ext X6) => (n.cell _ _ sor).trans ror0
  have xor1 := fun (n : Ext X6) => (n.cell _ _ sor).trans ror1
  have hne : Nonempty (Ext X6) := ⟨⟨_, Below.refl _ _⟩⟩
  refine wp_region_ext (by kernel_rfl) (by kernel_rfl) ?_
  repeat (go_big_quiet_step (first | (go_at_call 5; exact ext_of (and_op _ _ _ _ _ (T.keep (gtrans B (Ext.h _))))) | (go_at_call 6; exact ext_of (or_op _ _ _ _ _ (T.keep (gtrans B (Ext.h _))))) | (go_at_call 7; exact ext_of (not_op _ _ _ (TN.keep (gtrans B (Ext.h _))))) | (go_at_call 8; exact ext_of (true_op _ _ _))))
  refine wpQuiet_nil ?_
  intro _ hw'
  obtain ⟨nxw, hw''⟩ := hw'
  subst hw''
  replace ra0 := xa0 nxw
  replace ra1 := xa1 nxw
  replace sa := Nat.lt_of_lt_of_le sa nxw.h.size
  clear xa0 xa1
  replace rb0 := xb0 nxw
  replace rb1 := xb1 nxw
  replace sb := Nat.lt_of_lt_of_le sb nxw.h.size
  clear xb0 xb1
  replace rc0 := xc0 nxw
  replace rc1 := xc1 nxw
  replace sc := Nat.lt_of_lt_of_le sc nxw.h.size
  clear xc0 xc1
  replace ryes0 := xyes0 nxw
  replace ryes1 := xyes1 nxw
  replace syes := Nat.lt_of_lt_of_le syes nxw.h.size
  clear xyes0 xyes1
  replace rno0 := xno0 nxw
  replace rno1 := xno1 nxw
  replace sno := Nat.lt_of_lt_of_le sno nxw.h.size
  clear xno0 xno1
  replace rand0 := xand0 nxw
  replace rand1 := xand1 nxw
  replace sand := Nat.lt_of_lt_of_le sand nxw.h.size
  clear xand0 xand1
  replace ror0 := xor0 nxw
  replace ror1 := xor1 nxw
  replace sor := Nat.lt_of_lt_of_le sor nxw.h.size
  clear xor0 xor1
  replace B := gtrans B nxw.h
  clear hne
  clear G
  obtain ⟨X7, hX⟩ := nxw
  dsimp only at *
  clear hX
  have G := Below.refl X7.heap.size X7
  go_upto_region 13 with fail
  go_upto_region 14 with (first | (go_at_call 5; refine (and_op _ _ _ _ _ (T.keep (gtrans B G))).mono ?_; rintro e u8 ⟨rfl, g⟩; replace G := gtrans G g; obtain ⟨hc, hf⟩ := bcell G) | (go_at_call 6; refine (or_op _ _ _ _ _ (T.keep (gtrans B G))).mono ?_; rintro e u8 ⟨rfl, g⟩; replace G := gtrans G g; obtain ⟨hc, hf⟩ := bcell G))
  replace ra0 := kold G (.cells #[.bool ka, .int .i64 (vN (rd ka a))] 23) sa ra0
  replace ra1 := kold G (.cells #[.bool ka, .int .i64 (vN (rd ka a))] 23) sa ra1
  replace sa := ksize G (.cells #[.bool ka, .int .i64 (vN (rd ka a))] 23) sa
  replace rb0 := kold G (.cells #[.bool ka, .int .i64 (vN (rd ka a))] 23) sb rb0
  replace rb1 := kold G (.cells #[.bool ka, .int .i64 (vN (rd ka a))] 23) sb rb1
  replace sb := ksize G (.cells #[.bool ka, .int .i64 (vN (rd ka a))] 23) sb
  replace rc0 := kold G (.cells #[.bool ka, .int .i64 (vN (rd ka a))] 23) sc rc0
  replace rc1 := kold G (.cells #[.bool ka, .int .i64 (vN (rd ka a))] 23) sc rc1
  replace sc := ksize G (.cells #[.bool ka, .int .i64 (vN (rd ka a))] 23) sc
  replace ryes0 := kold G (.cells #[.bool ka, .int .i64 (vN (rd ka a))] 23) syes ryes0
  replace ryes1 := kold G (.cells #[.bool ka, .int .i64 (vN (rd ka a))] 23) syes ryes1
  replace syes := ksize G (.cells #[.bool ka, .int .i64 (vN (rd ka a))] 23) syes
  replace rno0 := kold G (.cells #[.bool ka, .int .i64 (vN (rd ka a))] 23) sno rno0
  replace rno1 := kold G (.cells #[.bool ka, .int .i64 (vN (rd ka a))] 23) sno rno1
  replace sno := ksize G (.cells #[.bool ka, .int .i64 (vN (rd ka a))] 23) sno
  replace rand0 := kold G (.cells #[.bool ka, .int .i64 (vN (rd ka a))] 23) sand rand0
  replace rand1 := kold G (.cells #[.bool ka, .int .i64 (vN (rd ka a))] 23) sand rand1
  replace sand := ksize G (.cells #[.bool ka, .int .i64 (vN (rd ka a))] 23) sand
  replace ror0 := kold G (.cells #[.bool ka, .int .i64 (vN (rd ka a))] 23) sor ror0
  replace ror1 := kold G (.cells #[.bool ka, .int .i64 (vN (rd ka a))] 23) sor ror1
  replace sor := ksize G (.cells #[.bool ka, .int .i64 (vN (rd ka a))] 23) sor
  replace B := galloc (gtrans B G) (.cells #[.bool ka, .int .i64 (vN (rd ka a))] 23)
  have rt0 := knew u8 #[.bool ka, .int .i64 (vN (rd ka a))] 23 0 _ rfl
  have rt1 := knew u8 #[.bool ka, .int .i64 (vN (rd ka a))] 23 1 _ rfl
  have st := ksnew u8 (.cells #[.bool ka, .int .i64 (vN (rd ka a))] 23)
  clear G
  generalize (u8.alloc (.cells #[.bool ka, .int .i64 (vN (rd ka a))] 23)) = V9 at *
  have G := Below.refl V9.heap.size V9
  have xa0 := fun (n : Ext V9) => (n.cell _ _ sa).trans ra0
  have xa1 := fun (n : Ext V9) => (n.cell _ _ sa).trans ra1
  have xb0 := fun (n : Ext V9) => (n.cell _ _ sb).trans rb0
  have xb1 := fun (n : Ext V9) => (n.cell _ _ sb).trans rb1
  have xc0 := fun (n : Ext V9) => (n.cell _ _ sc).trans rc0
  have xc1 := fun (n : Ext V9) => (n.cell _ _ sc).trans rc1
  have xyes0 := fun (n : Ext V9) => (n.cell _ _ syes).trans ryes0
  have xyes1 := fun (n : Ext V9) => (n.cell _ _ syes).trans ryes1
  have xno0 := fun (n : Ext V9) => (n.cell _ _ sno).trans rno0
  have xno1 := fun (n : Ext V9) => (n.cell _ _ sno).trans rno1
  have xand0 := fun (n : Ext V9) => (n.cell _ _ sand).trans rand0
  have xand1 := fun (n : Ext V9) => (n.cell _ _ sand).trans rand1
  have xor0 := fun (n : Ext V9) => (n.cell _ _ sor).trans ror0
  have xor1 := fun (n : Ext V9) => (n.cell _ _ sor).trans ror1
  have xt0 := fun (n : Ext V9) => (n.cell _ _ st).trans rt0
  have xt1 := fun (n : Ext V9) => (n.cell _ _ st).trans rt1
  have hne : Nonempty (Ext V9) := ⟨⟨_, Below.refl _ _⟩⟩
  refine wp_region_ext (by kernel_rfl) (by kernel_rfl) ?_
  repeat (go_big_quiet_step (first | (go_at_call 5; exact ext_of (and_op _ _ _ _ _ (T.keep (gtrans B (Ext.h _))))) | (go_at_call 6; exact ext_of (or_op _ _ _ _ _ (T.keep (gtrans B (Ext.h _))))) | (go_at_call 7; exact ext_of (not_op _ _ _ (TN.keep (gtrans B (Ext.h _))))) | (go_at_call 8; exact ext_of (true_op _ _ _))))
  refine wpQuiet_nil ?_
  intro _ hw'
  obtain ⟨nxw, hw''⟩ := hw'
  subst hw''
  replace ra0 := xa0 nxw
  replace ra1 := xa1 nxw
  replace sa := Nat.lt_of_lt_of_le sa nxw.h.size
  clear xa0 xa1
  replace rb0 := xb0 nxw
  replace rb1 := xb1 nxw
  replace sb := Nat.lt_of_lt_of_le sb nxw.h.size
  clear xb0 xb1
  replace rc0 := xc0 nxw
  replace rc1 := xc1 nxw
  replace sc := Nat.lt_of_lt_of_le sc nxw.h.size
  clear xc0 xc1
  replace ryes0 := xyes0 nxw
  replace ryes1 := xyes1 nxw
  replace syes := Nat.lt_of_lt_of_le syes nxw.h.size
  clear xyes0 xyes1
  replace rno0 := xno0 nxw
  replace rno1 := xno1 nxw
  replace sno := Nat.lt_of_lt_of_le sno nxw.h.size
  clear xno0 xno1
  replace rand0 := xand0 nxw
  replace rand1 := xand1 nxw
  replace sand := Nat.lt_of_lt_of_le sand nxw.h.size
  clear xand0 xand1
  replace ror0 := xor0 nxw
  replace ror1 := xor1 nxw
  replace sor := Nat.lt_of_lt_of_le sor nxw.h.size
  clear xor0 xor1
  replace rt0 := xt0 nxw
  replace rt1 := xt1 nxw
  replace st := Nat.lt_of_lt_of_le st nxw.h.size
  clear xt0 xt1
  replace B := gtrans B nxw.h
  clear hne
  clear G
  obtain ⟨X9, hX⟩ := nxw
  dsimp only at *
  clear hX
  have G := Below.refl X9.heap.size X9
  go_upto_region 16 with fail
  have xa0 := fun (n : Ext X9) => (n.cell _ _ sa).trans ra0
  have xa1 := fun (n : Ext X9) => (n.cell _ _ sa).trans ra1
  have xb0 := fun (n : Ext X9) => (n.cell _ _ sb).trans rb0
  have xb1 := fun (n : Ext X9) => (n.cell _ _ sb).trans rb1
  have xc0 := fun (n : Ext X9) => (n.cell _ _ sc).trans rc0
  have xc1 := fun (n : Ext X9) => (n.cell _ _ sc).trans rc1
  have xyes0 := fun (n : Ext X9) => (n.cell _ _ syes).trans ryes0
  have xyes1 := fun (n : Ext X9) => (n.cell _ _ syes).trans ryes1
  have xno0 := fun (n : Ext X9) => (n.cell _ _ sno).trans rno0
  have xno1 := fun (n : Ext X9) => (n.cell _ _ sno).trans rno1
  have xand0 := fun (n : Ext X9) => (n.cell _ _ sand).trans rand0
  have xand1 := fun (n : Ext X9) => (n.cell _ _ sand).trans rand1
  have xor0 := fun (n : Ext X9) => (n.cell _ _ sor).trans ror0
  have xor1 := fun (n : Ext X9) => (n.cell _ _ sor).trans ror1
  have xt0 := fun (n : Ext X9) => (n.cell _ _ st).trans rt0
  have xt1 := fun (n : Ext X9) => (n.cell _ _ st).trans rt1
  have hne : Nonempty (Ext X9) := ⟨⟨_, Below.refl _ _⟩⟩
  refine wp_region_ext (by kernel_rfl) (by kernel_rfl) ?_
  repeat (go_big_quiet_step (first | (go_at_call 5; exact ext_of (and_op _ _ _ _ _ (T.keep (gtrans B (Ext.h _))))) | (go_at_call 6; exact ext_of (or_op _ _ _ _ _ (T.keep (gtrans B (Ext.h _))))) | (go_at_call 7; exact ext_of (not_op _ _ _ (TN.keep (gtrans B (Ext.h _))))) | (go_at_call 8; exact ext_of (true_op _ _ _))))
  refine wpQuiet_nil ?_
  intro _ hw'
  obtain ⟨nxw, hw''⟩ := hw'
  subst hw''
  replace ra0 := xa0 nxw
  replace ra1 := xa1 nxw
  replace sa := Nat.lt_of_lt_of_le sa nxw.h.size
  clear xa0 xa1
  replace rb0 := xb0 nxw
  replace rb1 := xb1 nxw
  replace sb := Nat.lt_of_lt_of_le sb nxw.h.size
  clear xb0 xb1
  replace rc0 := xc0 nxw
  replace rc1 := xc1 nxw
  replace sc := Nat.lt_of_lt_of_le sc nxw.h.size
  clear xc0 xc1
  replace ryes0 := xyes0 nxw
  replace ryes1 := xyes1 nxw
  replace syes := Nat.lt_of_lt_of_le syes nxw.h.size
  clear xyes0 xyes1
  replace rno0 := xno0 nxw
  replace rno1 := xno1 nxw
  replace sno := Nat.lt_of_lt_of_le sno nxw.h.size
  clear xno0 xno1
  replace rand0 := xand0 nxw
  replace rand1 := xand1 nxw
  replace sand := Nat.lt_of_lt_of_le sand nxw.h.size
  clear xand0 xand1
  replace ror0 := xor0 nxw
  replace ror1 := xor1 nxw
  replace sor := Nat.lt_of_lt_of_le sor nxw.h.size
  clear xor0 xor1
  replace rt0 := xt0 nxw
  replace rt1 := xt1 nxw
  replace st := Nat.lt_of_lt_of_le st nxw.h.size
  clear xt0 xt1
  replace B := gtrans B nxw.h
  clear hne
  clear G
  obtain ⟨X10, hX⟩ := nxw
  dsimp only at *
  clear hX
  have G := Below.refl X10.heap.size X10
  go_upto_region 18 with fail
  clear EK0 EN0 EK1 EN1 EK2 EN2 EK3 EN3 EK4 EN4 EK5 EN5 EK6 EN6 EK7 EN7 EK8 EN8 EK9 EN9 EK10 EN10 EK11 EN11 EK12 EN12 EK13 EN13 EK14 EN14 EK15 EN15 EK16 EN16
  have hab := ET.out
  have hob := EO.out
  clear ET EO
  generalize (aK ka a kb b) = kA at *
  generalize (aN ka a kb b) = nA at *
  generalize (oK ka a kb b) = kO at *
  generalize (oN ka a kb b) = nO at *
  rcases tr_cases ka a with ⟨hk, ht⟩ | ⟨hk, hn, ht⟩ | ⟨hk, hn, ht⟩ <;> subst hk <;> cases hb : tr kb b
  all_goals
    rw [ht, hb] at hab hob
    simp only [Bool.and_true, Bool.and_false, Bool.or_true, Bool.or_false] at hab hob
    clear ryes0 ryes1 syes rno0 rno1 sno rc0 rc1 sc rt0 rt1 st
    have xa0 := fun (n : Ext X10) => (n.cell _ _ sa).trans ra0
    have xa1 := fun (n : Ext X10) => (n.cell _ _ sa).trans ra1
    have xb0 := fun (n : Ext X10) => (n.cell _ _ sb).trans rb0
    have xb1 := fun (n : Ext X10) => (n.cell _ _ sb).trans rb1
    have xand0 := fun (n : Ext X10) => (n.cell _ _ sand).trans rand0
    have xand1 := fun (n : Ext X10) => (n.cell _ _ sand).trans rand1
    have xor0 := fun (n : Ext X10) => (n.cell _ _ sor).trans ror0
    have xor1 := fun (n : Ext X10) => (n.cell _ _ sor).trans ror1
    have hne : Nonempty (Ext X10) := ⟨⟨_, Below.refl _ _⟩⟩
    refine wp_region_ext (by kernel_rfl) (by kernel_rfl) ?_
    repeat (go_big_quiet_step (first | (go_at_call 5; exact ext_of (and_op _ _ _ _ _ (T.keep (gtrans B (Ext.h _))))) | (go_at_call 6; exact ext_of (or_op _ _ _ _ _ (T.keep (gtrans B (Ext.h _))))) | (go_at_call 7; exact ext_of (not_op _ _ _ (TN.keep (gtrans B (Ext.h _))))) | (go_at_call 8; exact ext_of (true_op _ _ _))))
    refine wpQuiet_nil ?_
    intro _ hw'
    obtain ⟨nxw, hw''⟩ := hw'
    subst hw''
    replace ra0 := xa0 nxw
    replace ra1 := xa1 nxw
    replace sa := Nat.lt_of_lt_of_le sa nxw.h.size
    clear xa0 xa1
    replace rb0 := xb0 nxw
    replace rb1 := xb1 nxw
    replace sb := Nat.lt_of_lt_of_le sb nxw.h.size
    clear xb0 xb1
    replace rand0 := xand0 nxw
    replace rand1 := xand1 nxw
    replace sand := Nat.lt_of_lt_of_le sand nxw.h.size
    clear xand0 xand1
    replace ror0 := xor0 nxw
    replace ror1 := xor1 nxw
    replace sor := Nat.lt_of_lt_of_le sor nxw.h.size
    clear xor0 xor1
    replace B := gtrans B nxw.h
    clear hne
    clear G
    obtain ⟨X11, hX⟩ := nxw
    dsimp only at *
    clear hX
    have G := Below.refl X11.heap.size X11
    go_upto_region 20 with fail
    have xa0 := fun (n : Ext X11) => (n.cell _ _ sa).trans ra0
    have xa1 := fun (n : Ext X11) => (n.cell _ _ sa).trans ra1
    have xb0 := fun (n : Ext X11) => (n.cell _ _ sb).trans rb0
    have xb1 := fun (n : Ext X11) => (n.cell _ _ sb).trans rb1
    have xand0 := fun (n : Ext X11) => (n.cell _ _ sand).trans rand0
    have xand1 := fun (n : Ext X11) => (n.cell _ _ sand).trans rand1
    have xor0 := fun (n : Ext X11) => (n.cell _ _ sor).trans ror0
    have xor1 := fun (n : Ext X11) => (n.cell _ _ sor).trans ror1
    have hne : Nonempty (Ext X11) := ⟨⟨_, Below.refl _ _⟩⟩
    refine wp_region_ext (by kernel_rfl) (by kernel_rfl) ?_
    repeat (go_big_quiet_step (first | (go_at_call_of 8 (Value.int IntKind.i64 a); exact ext_of (true_lit ht _)) | (go_at_call_of 8 (Value.int IntKind.i64 b); exact ext_of (true_lit hb _)) | (go_at_call_of 8 (Value.int IntKind.i64 nA); exact ext_of (true_lit hab _)) | (go_at_call_of 8 (Value.int IntKind.i64 nO); exact ext_of (true_lit hob _)) | (go_at_call 5; exact ext_of (and_op _ _ _ _ _ (T.keep (gtrans B (Ext.h _))))) | (go_at_call 6; exact ext_of (or_op _ _ _ _ _ (T.keep (gtrans B (Ext.h _))))) | (go_at_call 7; exact ext_of (not_op _ _ _ (TN.keep (gtrans B (Ext.h _))))) | (go_at_call 8; exact ext_of (true_op _ _ _))))
    refine wpQuiet_nil ?_
    intro _ hw'
    obtain ⟨nxw, hw''⟩ := hw'
    subst hw''
    go_wp2
    go_ret
    exact ⟨rfl, gtrans B nxw.h⟩

theorem own : ownKnob Tryd.prog.godebug = none := by kernel_rfl
theorem laidOut : laidOutB Tryd.prog = true := by kernel_rfl
theorem cellsV : Tryd.prog.cellsOf 23 = 2 := by kernel_rfl

theorem gAnd : Tryd.prog.globalNamed "sluice/num.andTable" = some 0 := by kernel_rfl
theorem gOr : Tryd.prog.globalNamed "sluice/num.orTable" = some 1 := by kernel_rfl
theorem gNot : Tryd.prog.globalNamed "sluice/num.notTable" = some 2 := by kernel_rfl
theorem tabs {W : World} (h : laidMetH Tryd.prog Rows.numLatticeRow.laid W) : Tabs W := by
  have h0 : laidMet Tryd.prog Rows.numLatticeRow.laid W := h
  have h1 := laidMet_tail h0
  have ca := tab33 (z := fun i j => minI i j) gAnd (by kernel_rfl) Tryd.underlying31 Tryd.underlying30 Tryd.underlying29 (by kernel_rfl) (by kernel_rfl) (by kernel_rfl) h0
  have co := tab33 (z := fun i j => maxI i j) gOr (by kernel_rfl) Tryd.underlying31 Tryd.underlying30 Tryd.underlying29 (by kernel_rfl) (by kernel_rfl) (by kernel_rfl) h1
  exact ⟨block_of (co 0 0 (by omega) (by omega)), ca, co⟩
theorem tabN {W : World} (h : laidMetH Tryd.prog Rows.numLatticeRow.laid W) : TabN W := by
  have h0 : laidMet Tryd.prog Rows.numLatticeRow.laid W := h
  have h2 := laidMet_tail (laidMet_tail h0)
  have cn := tab3 (z := fun i => notI i) gNot (by kernel_rfl) Tryd.underlying30 Tryd.underlying29 (by kernel_rfl) (by kernel_rfl) h2
  exact ⟨block_of (cn 0 (by omega)), fun i hi => (cn i hi).trans (by rw [notI_eq i hi])⟩

set_option maxRecDepth 100000 in
theorem contract (H : Type) (enc : TypeId × Value → H) (W : World) (base : Nat) (args : Array Value) (ds gs : List (DataW H)) (before : List MemPlace)
    (hval : ∀ (j : Nat) t v, Tryd.f3.params[j]? = some t → args[j]? = some v → Value.okWide Tryd.prog W .any base t v)
    (hW : DataW.Whole enc Tryd.prog Tryd.f3.params.toList Rows.numLatticeSpec.vars false W args.toList ds gs before) (hL : laidMetH Tryd.prog Rows.numLatticeRow.laid W) :
    Calls Tryd.prog 3 args W fun e W' => ∃ v, e = .returned v ∧ Rows.numLatticeSpec.post enc Tryd.prog Tryd.f3 false true false false W args v W' := by
  have hW' := hW
  obtain ⟨p, q, hA0, hV, rfl, hfz, hnd⟩ := hW
  have hA : DataW.TrodAll enc Tryd.prog W 0 (fun _ => true) true Tryd.f3.params.toList args.toList ds p := hA0
  rw [Tryd.params3] at hA hval
  obtain ⟨v0, vs0, d0, ds0, p0, q0, hargs, rfl, rfl, h0, r0⟩ := trodAll_cons hA
  obtain ⟨v1, vs1, d1, ds1, p1, q1, rfl, rfl, rfl, h1, r1⟩ := trodAll_cons r0
  obtain ⟨v2, vs2, d2, ds2, p2, q2, rfl, rfl, rfl, h2, r2⟩ := trodAll_cons r1
  obtain ⟨rfl, rfl, rfl⟩ := trodAll_nil r2
  obtain rfl : args = #[v0, v1, v2] := by cases args; simp_all
  obtain ⟨rfl, rfl⟩ := trodVars_none hV
  have k0 := h0
  have lt0 : ∀ x ∈ p0, x.block < W.heap.size := by obtain ⟨m, hm⟩ := k0; exact DataW.trod_lt m _ _ _ hm
  obtain ⟨c0, n0, y0, z0, m0, e0, _, _, hy0, hz0⟩ := Joins.open_agg2 Tryd.underlying23 (by kernel_rfl) cellsV (hval 0 23 v0 rfl rfl) h0
  subst e0
  obtain ⟨ka0, f0, _⟩ := DataW.trod_bool Tryd.underlying4 hy0
  obtain ⟨a0, g0, _, w0⟩ := DataW.trod_int Tryd.underlying2 hz0
  simp only [List.cons.injEq, and_true] at f0 g0
  subst f0; subst g0
  have k1 := h1
  have lt1 : ∀ x ∈ p1, x.block < W.heap.size := by obtain ⟨m, hm⟩ := k1; exact DataW.trod_lt m _ _ _ hm
  obtain ⟨c1, n1, y1, z1, m1, e1, _, _, hy1, hz1⟩ := Joins.open_agg2 Tryd.underlying23 (by kernel_rfl) cellsV (hval 1 23 v1 rfl rfl) h1
  subst e1
  obtain ⟨ka1, f1, _⟩ := DataW.trod_bool Tryd.underlying4 hy1
  obtain ⟨a1, g1, _, w1⟩ := DataW.trod_int Tryd.underlying2 hz1
  simp only [List.cons.injEq, and_true] at f1 g1
  subst f1; subst g1
  have k2 := h2
  have lt2 : ∀ x ∈ p2, x.block < W.heap.size := by obtain ⟨m, hm⟩ := k2; exact DataW.trod_lt m _ _ _ hm
  obtain ⟨c2, n2, y2, z2, m2, e2, _, _, hy2, hz2⟩ := Joins.open_agg2 Tryd.underlying23 (by kernel_rfl) cellsV (hval 2 23 v2 rfl rfl) h2
  subst e2
  obtain ⟨ka2, f2, _⟩ := DataW.trod_bool Tryd.underlying4 hy2
  obtain ⟨a2, g2, _, w2⟩ := DataW.trod_int Tryd.underlying2 hz2
  simp only [List.cons.injEq, and_true] at f2 g2
  subst f2; subst g2
  clear hA0
  refine (walk ka0 a0 w0 ka1 a1 w1 ka2 a2 w2 W (tabs hL) (tabN hL)).mono fun e W' ⟨he, bel⟩ => ?_
  subst he
  exact ⟨_, rfl, _, _, _, [], _, [], hW', trodAll_mk1 (shut_bool Tryd.underlying4 _), (trodAll_cons_mk (Below.trod laidOut (by kernel_rfl) (of_decide_eq_true (by kernel_rfl)) k0 bel lt0) (trodAll_cons_mk (Below.trod laidOut (by kernel_rfl) (of_decide_eq_true (by kernel_rfl)) k1 bel lt1) (trodAll_cons_mk (Below.trod laidOut (by kernel_rfl) (of_decide_eq_true (by kernel_rfl)) k2 bel lt2) trodAll_mk0))), rfl, bel.frame _, fun h => by cases h⟩

/-- For the world of the witness: the settled one, the tables holding what their text lays. -/
def put (c : Array Value) : Obj → Obj
  | .cells _ t frozen => .cells c t frozen
  | x => x
theorem laid_met (os : Os) : laidMet Tryd.prog Rows.numLatticeRow.laid (({ World.holding Tryd.prog os ⟨#[], #[], []⟩ with heap := ((((World.holding Tryd.prog os ⟨#[], #[], []⟩).heap.modify 0 (put #[.int .i64 0, .int .i64 0, .int .i64 0, .int .i64 0, .int .i64 1, .int .i64 1, .int .i64 0, .int .i64 1, .int .i64 2])).modify 1 (put #[.int .i64 0, .int .i64 1, .int .i64 2, .int .i64 1, .int .i64 1, .int .i64 2, .int .i64 2, .int .i64 2, .int .i64 2])).modify 2 (put #[.int .i64 2, .int .i64 1, .int .i64 0])) } : World).forCall (fun _ _ => 0) ⟨#[], #[.agg #[.bool false, .int .i64 0], .agg #[.bool false, .int .i64 0], .agg #[.bool false, .int .i64 0]], []⟩).memory :=
  laidMet_of_run' 8 (by kernel_rfl) (by kernel_rfl)
theorem reads (os : Os) {H : Type} (enc : TypeId × Value → H) : ∃ places, DataW.whole enc Tryd.prog (({ World.holding Tryd.prog os ⟨#[], #[], []⟩ with heap := ((((World.holding Tryd.prog os ⟨#[], #[], []⟩).heap.modify 0 (put #[.int .i64 0, .int .i64 0, .int .i64 0, .int .i64 0, .int .i64 1, .int .i64 1, .int .i64 0, .int .i64 1, .int .i64 2])).modify 1 (put #[.int .i64 0, .int .i64 1, .int .i64 2, .int .i64 1, .int .i64 1, .int .i64 2, .int .i64 2, .int .i64 2, .int .i64 2])).modify 2 (put #[.int .i64 2, .int .i64 1, .int .i64 0])) } : World).forCall (fun _ _ => 0) ⟨#[], #[.agg #[.bool false, .int .i64 0], .agg #[.bool false, .int .i64 0], .agg #[.bool false, .int .i64 0]], []⟩).memory Tryd.f3.params.toList Rows.numLatticeSpec.vars false (#[.agg #[.bool false, .int .i64 0], .agg #[.bool false, .int .i64 0], .agg #[.bool false, .int .i64 0]] : Array Value).toList 8 = some ([.agg [.lit (.bool false), .lit (.int .i64 0)], .agg [.lit (.bool false), .lit (.int .i64 0)], .agg [.lit (.bool false), .lit (.int .i64 0)]], [], places) :=
  ⟨[], by kernel_rfl⟩

set_option maxRecDepth 100000 in
theorem lifted (os : Os) (started : os.Started) (H : Type) (enc : TypeId × Value → H) (F : Stop.Interp) :
    ReturnsInHanded {} Tryd.checked os 3 .any ((OpenSpec.ofChange Rows.numLatticeSpec).preRow enc Tryd.prog Tryd.f3 Rows.numLatticeRow.domain false Rows.numLatticeRow.laid) (((OpenSpec.ofChange Rows.numLatticeSpec).at F).post enc Tryd.prog Tryd.f3 false true false false) := by
  obtain ⟨places, hx⟩ := reads os enc
  refine returnsInHanded_of_row (C := Tryd.checked) (s := OpenSpec.ofChange Rows.numLatticeSpec) own started (by kernel_rfl) Tryd.func3
    (witness_row_at (enc := enc) (C := Tryd.checked) false ({ World.holding Tryd.prog os ⟨#[], #[], []⟩ with heap := ((((World.holding Tryd.prog os ⟨#[], #[], []⟩).heap.modify 0 (put #[.int .i64 0, .int .i64 0, .int .i64 0, .int .i64 0, .int .i64 1, .int .i64 1, .int .i64 0, .int .i64 1, .int .i64 2])).modify 1 (put #[.int .i64 0, .int .i64 1, .int .i64 2, .int .i64 1, .int .i64 1, .int .i64 2, .int .i64 2, .int .i64 2, .int .i64 2])).modify 2 (put #[.int .i64 2, .int .i64 1, .int .i64 0])) } : World) #[.agg #[.bool false, .int .i64 0], .agg #[.bool false, .int .i64 0], .agg #[.bool false, .int .i64 0]] rfl (by kernel_rfl) (by kernel_rfl) (by kernel_rfl)
      (OpenSpec.preRow_of_cond 8 hx (by kernel_rfl) (fun k hk => by cases hk) (by kernel_rfl) (laid_met os))) ?_
  intro W base args ds gs before hval hW _ _ _ hL _ _
  exact contract H enc W base args ds gs before hval hW hL

theorem said : Rows.NumLatticeSaid :=
  OpenClaim.holds_of_cond 3 Tryd.f3 rfl rfl rfl rfl rfl rfl rfl ⟨rfl, rfl, rfl, rfl, rfl⟩ rfl rfl rfl rfl rfl (by kernel_rfl) Tryd.func3 (by kernel_rfl)
    (of_decide_eq_true (by kernel_rfl)) (by unfold Func.isWrapper; first | (rw [if_pos (by decide +kernel)]; kernel_rfl) | (rw [if_neg (by decide +kernel)]; exact ⟨rfl, rfl⟩))
    (fun os started H enc _ F => by rw [OpenClaim.pre_eq_preRow]; exact lifted os started H enc F)

theorem plain (f : FuncId) (fn : Func) (hf : Tryd.pinned.checked.prog.funcNamed "sluice/sluicelaw1.NumLattice" = some f) (hfn : Tryd.pinned.checked.prog.funcs[f]? = some fn) :
    false = Tryd.pinned.checked.prog.looks [] ∧ ∀ (j : Nat) t, fn.params[j]? = some t → Tryd.pinned.checked.prog.wantsStandIn t = false := by
  obtain rfl : f = 3 := Option.some.inj ((show Tryd.prog.funcNamed "sluice/sluicelaw1.NumLattice" = some 3 by kernel_rfl).symm.trans hf) |>.symm
  obtain rfl : fn = Tryd.f3 := (Option.some.inj (Tryd.func3.symm.trans hfn)).symm
  refine ⟨by kernel_rfl, fun j t ht => ?_⟩
  rw [Tryd.params3] at ht
  have hm : t = 23 := by simpa using Array.mem_of_getElem? ht
  rw [hm]
  exact (show Tryd.prog.wantsStandIn 23 = false by kernel_rfl)

end Go.Proofs.YtcjldhnjcmhfhaaDoor.numLattice
namespace Go.Proofs.YtcjldhnjcmhfhaaDoor
theorem numLattice_holds : Rows.NumLatticeCardSaid :=
  Claim7.holds_tied_plain_at .later [] _ _ _ _ numLattice.said (fun _ h => by cases h) (by kernel_rfl) (fun _ h => by cases h) numLattice_row_tie rfl ⟨rfl, rfl⟩ (by kernel_rfl) rfl numLattice.plain (by kernel_rfl)
#print axioms numLattice_holds
end Go.Proofs.YtcjldhnjcmhfhaaDoor
