/- What the law's started comes to. -/
import Derived.Test.YtkpnnofonocilaaDoorWe2
namespace Go.Proofs.YtkpnnofonocilaaDoor
open Go.RowKit Go.BigFrame
set_option linter.unusedVariables false
set_option linter.unusedSimpArgs false

def tx1 : ByteArray := ⟨#[116, 121, 112, 101, 32, 65, 40, 120, 41]⟩
def tx2 : ByteArray := ⟨#[116, 121, 112, 101, 32, 65, 40, 120, 41, 32, 59]⟩
def ln1 : ByteArray := ⟨#[53, 32, 54, 32, 65, 32, 55]⟩
def ln2 : ByteArray := ⟨#[53, 32, 54, 32, 65, 32, 120]⟩
def tyA : List Ty := [(⟨#[65]⟩, [⟨#[120]⟩])]
theorem sc1 : scO tx1 = (tyA, 0, 0) := by kernel_rfl
theorem sc2 : scO tx2 = ([], 21, 10) := by kernel_rfl
theorem pe1 : pE tyA ln1 = (⟨5, 6, 0, 7, 0, 0, 0, 0, 0, 0, 0⟩, 0, 0) := by kernel_rfl
theorem pe2 : pE tyA ln2 = (zeroE, 26, 6) := by kernel_rfl

set_option maxRecDepth 100000 in
set_option maxHeartbeats 8000000 in
theorem started_any (w : World) (K : KwAt w) (E : ErAt w) :
    Calls Tryd.prog 12 #[] w fun e w' => e = .returned (.bool true) ∧ Below w.heap.size w w' := by
  have c1 : Calls Tryd.prog 9 #[.string ⟨#[116, 121, 112, 101, 32, 65, 40, 120, 41]⟩] w fun e w' => ∃ v, e = .returned (.tuple #[.agg #[v], .int .i64 0, .int .i64 0]) ∧ OwnP w.heap.size w' v 1 tyA ∧ Below w.heap.size w w' := by
    have := parseSchema_any tx1 (by decide) w K
    rw [sc1] at this
    exact this
  have c3 : ∀ u : World, KwAt u → Calls Tryd.prog 9 #[.string ⟨#[116, 121, 112, 101, 32, 65, 40, 120, 41, 32, 59]⟩] u fun e w' => ∃ v, e = .returned (.tuple #[.agg #[v], .int .i64 21, .int .i64 10]) ∧ OwnP u.heap.size w' v 0 [] ∧ Below u.heap.size u w' := fun u Ku => by
    have := parseSchema_any tx2 (by decide) u Ku
    rw [sc2] at this
    exact this
  have c2 : ∀ (u : World) (ao : Option Addr) (cp : Nat), IsTypes u ao 1 tyA → 1 ≤ cp → KwAt u → ErAt u → Calls Tryd.prog 17 #[.agg #[.slice ao 1 cp], .string ⟨#[53, 32, 54, 32, 65, 32, 55]⟩] u fun r w' => r = .returned (.tuple #[.agg #[.int .i64 5, .int .u64 6, .int .i64 0, .int .i64 7, .int .i64 0, .int .i64 0, .int .i64 0, .int .i64 0, .int .i64 0, .int .i64 0, .int .i64 0], .int .i64 0, .int .i64 0]) ∧ Below u.heap.size u w' := fun u ao cp T hc Ku Eu => by
    have := parseEvent_any ao 1 cp tyA ln1 (by decide) u T hc Ku Eu
    rw [pe1] at this
    exact this
  have c4 : ∀ (u : World) (ao : Option Addr) (cp : Nat), IsTypes u ao 1 tyA → 1 ≤ cp → KwAt u → ErAt u → Calls Tryd.prog 17 #[.agg #[.slice ao 1 cp], .string ⟨#[53, 32, 54, 32, 65, 32, 120]⟩] u fun r w' => r = .returned (.tuple #[.agg #[.int .i64 0, .int .u64 0, .int .i64 0, .int .i64 0, .int .i64 0, .int .i64 0, .int .i64 0, .int .i64 0, .int .i64 0, .int .i64 0, .int .i64 0], .int .i64 26, .int .i64 6]) ∧ Below u.heap.size u w' := fun u ao cp T hc Ku Eu => by
    have := parseEvent_any ao 1 cp tyA ln2 (by decide) u T hc Ku Eu
    rw [pe2] at this
    exact this
  go_enter Tryd.func12, Tryd.ntmps12
  go_upto_region 2 with (first
    | (go_at_call 9; (with_reducible refine c1.mono ?_); rintro e1 u1 ⟨v1, rfl, T1, g1⟩; obtain ⟨ao, cp, rfl, A1⟩ := T1.own.types))
  have hcp : 1 ≤ cp := by
    obtain ⟨_, cells, h1, _⟩ := T1
    exact own_cap h1
  have B1 := galloc g1 (.cells #[.slice ao 1 cp] 24)
  have S1 := One.new u1 (.slice ao 1 cp) 24
  have A2 := A1.keep (galloc (Below.refl u1.heap.size u1) (.cells #[.slice ao 1 cp] 24))
  generalize u1.alloc (.cells #[.slice ao 1 cp] 24) = X1 at *
  have sb := S1.lt
  generalize hbu : u1.heap.size = bs at *
  clear c1 T1 A1 g1 hbu
  have s1 := S1.at0
  have cE := c2 X1 ao cp A2 hcp (K.keep B1) (E.keep B1)
  have A3 := A2
  obtain ⟨_, _, q4⟩ := A3
  rcases q4 with q4 | ⟨b2, off, rfl, hb2, hcb⟩
  · cases q4
  obtain ⟨d0, aj, cj, d1, _, hst⟩ := hcb 0 (by decide)
  obtain ⟨_, _, q5⟩ := hst
  rcases q5 with q5 | ⟨b3, off3, rfl, hb3, hcs⟩
  · cases q5
  have d2 := hcs 0 (by decide)
  replace d0 : X1.cell? ⟨b2, off, none⟩ = some (.string ⟨#[65]⟩) := d0
  replace d1 : X1.cell? ⟨b2, off + 1, none⟩ = some (.slice (some ⟨b3, off3, none⟩) 1 cj) := by
    have h5 : X1.cell? ⟨b2, off + 0 * 2 + 1, none⟩ = some (.slice (some ⟨b3, off3, none⟩) 1 cj) := d1
    rw [Nat.zero_mul, Nat.add_zero] at h5
    exact h5
  replace d2 : X1.cell? ⟨b3, off3, none⟩ = some (.string ⟨#[120]⟩) := d2
  clear hcb hcs
  go_wp2_with (first
    | (go_at_call 17; (with_reducible refine cE.mono ?_); rintro e2 u2 ⟨rfl, g2⟩))
  have B2 := galloc (gtrans B1 g2) (.cells #[.int .i64 5, .int .u64 6, .int .i64 0, .int .i64 7, .int .i64 0, .int .i64 0, .int .i64 0, .int .i64 0, .int .i64 0, .int .i64 0, .int .i64 0] 44)
  have q2 := galloc g2 (.cells #[.int .i64 5, .int .u64 6, .int .i64 0, .int .i64 7, .int .i64 0, .int .i64 0, .int .i64 0, .int .i64 0, .int .i64 0, .int .i64 0, .int .i64 0] 44)
  generalize u2.alloc (.cells #[.int .i64 5, .int .u64 6, .int .i64 0, .int .i64 7, .int .i64 0, .int .i64 0, .int .i64 0, .int .i64 0, .int .i64 0, .int .i64 0, .int .i64 0] 44) = X2 at *
  refine (c3 X2 (K.keep B2)).mono ?_
  rintro e3 u3 ⟨v3, rfl, T3, g3⟩
  obtain ⟨a3, p3, rfl, _⟩ := T3.own.types
  have q3 := gtrans q2 g3
  have s3 := (S1.keep q3).at0
  have cE2 := c4 u3 (some ⟨b2, off, none⟩) cp (A2.keep q3) hcp (K.keep (gtrans B2 g3)) (E.keep (gtrans B2 g3))
  clear c2 c3 c4 cE d0 d1 d2 s1 T3
  go_wp2_with (first
    | (go_at_call 17; (with_reducible refine cE2.mono ?_); rintro e4 u4 ⟨rfl, g4⟩))
  go_ret
  exact ⟨rfl, gtrans (gtrans B2 g3) g4⟩

end Go.Proofs.YtkpnnofonocilaaDoor
