/- How a token is written: lex's Spell. -/
import Derived.Test.YtpodpahipapbaaaDoorFi
import Derived.Test.YtpodpahipapbaaaDoorTb
import Derived.Test.YtpodpahipapbaaaDoorKw
namespace Go.Proofs.YtpodpahipapbaaaDoor
open Go.RowKit Go.BigFrame Go.Shelf
set_option linter.unusedVariables false
set_option linter.unusedSimpArgs false

def spS (t : Tok) : ByteArray := if t.k = 1 then t.t else if t.k = 2 then ⟨(Lib.itoa t.n).toArray⟩ else if 3 ≤ t.k ∧ t.k ≤ 21 then sg (t.k - 3).toNat else if 30 ≤ t.k ∧ t.k ≤ 56 then kw (t.k - 30).toNat else ⟨#[]⟩

set_option maxRecDepth 100000 in
set_option maxHeartbeats 4000000 in
theorem spell_any (t : Tok) (hn : -9223372036854775808 ≤ t.n ∧ t.n ≤ 9223372036854775807) (w : World) (K : KwAt w) (Sg : SgAt w) (P : PwAt w) :
    Calls Tryd.prog 22 #[.agg (tokA t)] w fun e w' => e = .returned (.string (spS t)) ∧ Below w.heap.size w w' := by
  have cF := fun (u : World) (g : Below w.heap.size w u) => formatInt_any t.n hn.1 hn.2 u (P.keep g)
  obtain ⟨z, hz⟩ : ∃ z, z = spS t := ⟨_, rfl⟩
  rw [← hz]
  have HZ : Hid (z = spS t) := hz
  clear hz
  unfold tokA
  by_cases k1 : t.k = 1
  · have he : Hid (z = t.t) := by show _ = _; rw [HZ.out]; exact if_pos k1
    rw [k1]
    go_enter Tryd.func22, Tryd.ntmps22
    go_wp2
    go_ret
    exact ⟨by rw [he.out]; rfl, galloc (Below.refl _ _) _⟩
  have q1 : (t.k == 1) = false := by simpa using k1
  by_cases k2 : t.k = 2
  · have he : Hid (z = ⟨(Lib.itoa t.n).toArray⟩) := by show _ = _; rw [HZ.out]; unfold spS; rw [if_neg k1, if_pos k2]
    rw [k2]
    clear k1 q1 k2
    go_enter Tryd.func22, Tryd.ntmps22
    go_wp2_with (go_at_call 34; (with_reducible refine (cF _ (galloc (Below.refl _ _) _)).mono ?_); rintro e u ⟨rfl, g⟩)
    go_ret
    exact ⟨by rw [he.out]; rfl, gtrans (galloc (Below.refl _ _) _) g⟩
  have q2 : (t.k == 2) = false := by simpa using k2
  by_cases k3 : 3 ≤ t.k ∧ t.k ≤ 21
  · obtain ⟨j, hj⟩ : ∃ j : Nat, t.k = 3 + (j : Int) := ⟨(t.k - 3).toNat, by omega⟩
    have hj19 : j < 19 := by omega
    have he : Hid (z = sg j) := by show _ = _; rw [HZ.out]; unfold spS; rw [if_neg k1, if_neg k2, if_pos k3]; congr 1; omega
    have f := fun o => (Sg.keep (galloc (Below.refl w.heap.size w) o)).2 j hj19
    rw [hj] at q1 q2 ⊢
    have b1 : 3 + (j : Int) ≤ 21 := by omega
    clear k1 k2 k3 hj
    go_enter Tryd.func22, Tryd.ntmps22
    go_wp2
    go_ret
    exact ⟨by rw [he.out]; rfl, galloc (Below.refl _ _) _⟩
  by_cases k4 : 30 ≤ t.k ∧ t.k ≤ 56
  · obtain ⟨j, hj⟩ : ∃ j : Nat, t.k = 30 + (j : Int) := ⟨(t.k - 30).toNat, by omega⟩
    have hj27 : j < 27 := by omega
    have he : Hid (z = kw j) := by show _ = _; rw [HZ.out]; unfold spS; rw [if_neg k1, if_neg k2, if_neg k3, if_pos k4]; congr 1; omega
    have f := fun o => (K.keep (galloc (Below.refl w.heap.size w) o)).2 j hj27
    rw [hj] at q1 q2 ⊢
    have b0 : (3 : Int) ≤ 30 + (j : Int) := by omega
    have b1 : 30 + (j : Int) ≤ 56 := by omega
    have b2 : ¬ 30 + (j : Int) ≤ 21 := by omega
    have d2 : decide (30 + (j : Int) ≤ 21) = false := decide_eq_false b2
    clear k1 k2 k3 k4 hj
    go_enter Tryd.func22, Tryd.ntmps22
    go_wp2
    go_ret
    exact ⟨by rw [he.out]; rfl, galloc (Below.refl _ _) _⟩
  have he : Hid (z = ⟨#[]⟩) := by show _ = _; rw [HZ.out]; unfold spS; rw [if_neg k1, if_neg k2, if_neg k3, if_neg k4]
  generalize t.k = c at *
  clear k1 k2 HZ cF
  rcases (show c < 3 ∨ (21 < c ∧ c < 30) ∨ 56 < c from by omega) with h | h | h
  · have a0 : ¬ (3 : Int) ≤ c := by omega
    have a1 : ¬ (30 : Int) ≤ c := by omega
    go_enter Tryd.func22, Tryd.ntmps22
    go_wp2
    go_ret
    exact ⟨by rw [he.out]; rfl, galloc (Below.refl _ _) _⟩
  · have a0 : (3 : Int) ≤ c := by omega
    have a1 : ¬ (30 : Int) ≤ c := by omega
    have a2 : ¬ c ≤ 21 := by omega
    have d2 : decide (c ≤ 21) = false := decide_eq_false a2
    go_enter Tryd.func22, Tryd.ntmps22
    go_wp2
    go_ret
    exact ⟨by rw [he.out]; rfl, galloc (Below.refl _ _) _⟩
  · have a0 : (3 : Int) ≤ c := by omega
    have a1 : (30 : Int) ≤ c := by omega
    have a2 : ¬ c ≤ 21 := by omega
    have a3 : ¬ c ≤ 56 := by omega
    have d2 : decide (c ≤ 21) = false := decide_eq_false a2
    have d3 : decide (c ≤ 56) = false := decide_eq_false a3
    go_enter Tryd.func22, Tryd.ntmps22
    go_wp2
    go_ret
    exact ⟨by rw [he.out]; rfl, galloc (Below.refl _ _) _⟩

end Go.Proofs.YtpodpahipapbaaaDoor
