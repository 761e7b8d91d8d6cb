/- The laws' own clean: those of a list's tokens that Lex could give. -/
import Derived.Test.YtlcmfefcammklabDoorCo
import Derived.Test.YtlcmfefcammklabDoorOpenT
namespace Go.Proofs.YtlcmfefcammklabDoor
open Go.RowKit Go.BigFrame
set_option linter.unusedVariables false
set_option linter.unusedSimpArgs false

def t0 (t : Tok) : Tok := ⟨t.k, t.t, t.n, 0⟩
def cleanL (ts : List Tok) : Nat → List Tok
  | 0 => []
  | k + 1 => if (cleanL ts k).length < 400 ∧ couldB (t0 (ts.getD k noTok)) = true then cleanL ts k ++ [t0 (ts.getD k noTok)] else cleanL ts k
theorem cleanL_full (ts : List Tok) (k : Nat) (h : ¬ (cleanL ts k).length < 400) : ∀ m, cleanL ts (k + m) = cleanL ts k := by
  intro m
  induction m with
  | zero => rfl
  | succ m ih =>
    show (if (cleanL ts (k + m)).length < 400 ∧ couldB (t0 (ts.getD (k + m) noTok)) = true then _ else cleanL ts (k + m)) = _
    rw [ih, if_neg (fun h1 => h h1.1)]
theorem cleanL_len (ts : List Tok) : ∀ k, (cleanL ts k).length ≤ 400 := by
  intro k
  induction k with
  | zero => exact Nat.zero_le _
  | succ k ih =>
    show (if (cleanL ts k).length < 400 ∧ couldB (t0 (ts.getD k noTok)) = true then cleanL ts k ++ [t0 (ts.getD k noTok)] else cleanL ts k).length ≤ 400
    split
    · rename_i h; rw [List.length_append]; show (cleanL ts k).length + 1 ≤ 400; omega
    · exact ih
theorem cleanL_could (ts : List Tok) : ∀ k, ∀ t ∈ cleanL ts k, couldB t = true ∧ t.a = 0 ∧ ∃ j, t = t0 (ts.getD j noTok) := by
  intro k
  induction k with
  | zero => intro t ht; cases ht
  | succ k ih =>
    intro t ht
    have e : cleanL ts (k + 1) = if (cleanL ts k).length < 400 ∧ couldB (t0 (ts.getD k noTok)) = true then cleanL ts k ++ [t0 (ts.getD k noTok)] else cleanL ts k := rfl
    rw [e] at ht
    by_cases h : (cleanL ts k).length < 400 ∧ couldB (t0 (ts.getD k noTok)) = true
    · rw [if_pos h] at ht
      rcases List.mem_append.1 ht with h1 | h1
      · exact ih t h1
      · have h2 : t = t0 (ts.getD k noTok) := by simpa using h1
        subst h2
        exact ⟨h.2, rfl, k, rfl⟩
    · rw [if_neg h] at ht
      exact ih t ht
theorem new4r (w : World) (b : Nat) (hb : b = w.heap.size) (t : Tok) (j : Nat) (u : Value) (h : (tokA t).toList[j]? = some u) : (w.alloc (.cells (tokA t) 29)).cell? ((⟨b, 0, none⟩ : Addr).add j) = some u := by subst hb; exact new4 w t j u h
theorem one_tok (t : Tok) : ∀ u ∈ (tokA t).toList, u.oneCell' = true := by
  intro u hu
  simp [tokA] at hu
  rcases hu with rfl | rfl | rfl | rfl <;> rfl

set_option maxRecDepth 100000 in
set_option maxHeartbeats 8000000 in
theorem clean_any (ts : List Tok) (ao : Option Addr) (cap : Nat) (hl : ts.length ≤ 10000000000000) (ws : ∀ k, (ts.getD k noTok).fit) (w : World) (A : IsToks w ao ts) (Kr : KrAt w) :
    Calls Tryd.prog 13 #[.slice ao ts.length cap] w fun e w' => ∃ v, e = .returned v ∧ w'.ownsRow w.heap.size 29 4 v (cleanL ts ts.length).length (toksV (cleanL ts ts.length)) ∧ Below w.heap.size w w' := by
  obtain ⟨i3, ti, tz0, tz1, tz2⟩ := info_partsTk
  obtain ⟨n, hn⟩ : ∃ n, ts.length = n := ⟨_, rfl⟩
  rw [hn]
  go_enter Tryd.func13, Tryd.ntmps13
  go_wp2
  go_loopw [3, 4] (fun v i wr => ∃ k : Nat, k ≤ n ∧ i = .int .i64 k ∧ wr.ownsRow w.heap.size 29 4 v (cleanL ts k).length (toksV (cleanL ts k)) ∧ Below w.heap.size w wr) (fun _ i _ => n - (intOf i).toNat)
  case atStart => exact ⟨0, Nat.zero_le _, rfl, World.ownsRow_nil _ _ _ _, Below.refl _ _⟩
  case round =>
    obtain ⟨k, hk, rfl, O, G⟩ := hrel
    obtain ⟨vo, vc, rfl⟩ := own_shape O
    have hlen := cleanL_len ts k
    have zG := G.size
    by_cases hlt : k < n
    · by_cases h400 : (cleanL ts k).length < 400
      · obtain ⟨g, o, rfl, x0, x1, x2, x3⟩ := (A.keep G) k (by omega)
        have h4i : ((cleanL ts k).length : Int) < 400 := by omega
        have hws := (ws k).2
        have hnx : cleanL ts (k + 1) = if couldB (t0 (ts.getD k noTok)) = true then cleanL ts k ++ [t0 (ts.getD k noTok)] else cleanL ts k := by
          show (if (cleanL ts k).length < 400 ∧ couldB (t0 (ts.getD k noTok)) = true then cleanL ts k ++ [t0 (ts.getD k noTok)] else cleanL ts k) = _
          by_cases hc : couldB (t0 (ts.getD k noTok)) = true
          · rw [if_pos ⟨h400, hc⟩, if_pos hc]
          · rw [if_neg (fun h => hc h.2), if_neg hc]
        have cC := fun (u : World) (g5 : Below w.heap.size w u) => could_any (t0 (ts.getD k noTok)) hws u (Kr.keep g5)
        have HX : Hid (cleanL ts (k + 1) = if couldB (t0 (ts.getD k noTok)) = true then cleanL ts k ++ [t0 (ts.getD k noTok)] else cleanL ts k) := hnx
        clear hnx
        generalize ts.getD k noTok = y at *
        obtain ⟨L, hL⟩ : ∃ L, cleanL ts k = L := ⟨_, rfl⟩
        rw [hL] at O hlen h4i h400 HX ⊢
        replace cC : ∀ u, Below w.heap.size w u → Calls Tryd.prog 22 #[.agg #[.int .i64 y.k, .string y.t, .int .i64 y.n, .int .i64 0]] u fun e w' => e = .returned (.bool (couldB (t0 y))) ∧ Below u.heap.size u w' := cC
        have GA : Below w.heap.size w (wr.alloc (.cells #[.int .i64 y.k, .string y.t, .int .i64 y.n, .int .i64 0] 29)) := galloc G _
        cases hc : couldB (t0 y)
        · rw [hc] at cC HX
          rw [if_neg (by simp)] at HX
          go_wp2_with (go_at_call 22; (with_reducible refine (cC _ GA).mono ?_); rintro e5 u5 ⟨rfl, g5⟩)
          go_roundw
          case rel => exact ⟨k + 1, by omega, by go_num, by rw [HX.out]; exact own_keep (O.alloc _) g5, gtrans GA g5⟩
          case measure => simp [intOf]; omega
        · rw [hc] at cC HX
          rw [if_pos rfl] at HX
          go_wp2_with (first
            | (go_at_call 22; (with_reducible refine (cC _ GA).mono ?_); rintro e5 u5 ⟨rfl, g5⟩; obtain ⟨bc, bf⟩ := bcell g5; have O5 := own_keep (O.alloc (.cells #[.int .i64 y.k, .string y.t, .int .i64 y.n, .int .i64 0] 29)) g5; have G5 := gtrans GA g5; have z5 := G5.size)
            | (at_builtin; refine wpList_append_own _ rfl (.tmp 26) (.tmp 28) 23 rfl w.heap.size 29 i3 (.agg (tokA noTok)) 4 40 Tryd.underlying23 ti tz0 tz1 tz2 rfl (by decide) _ _ _ rfl (O5.alloc _) ⟨u5.heap.size, 0, none⟩ 1 1 (tokA (t0 y)).toList rfl rfl (new4r u5 _ rfl (t0 y)) (one_tok _) ?c3 ?c4 ?c5 ?_))
          case c3 => unfold maxLen; omega
          case c4 => omega
          case c5 => simp; omega
          intro v' w1 hown' hgrow _
          have hown2 : w1.ownsRow w.heap.size 29 4 v' (cleanL ts (k + 1)).length (toksV (cleanL ts (k + 1))) := by
            rw [HX.out, show toksV (L ++ [t0 y]) = toksV L ++ (tokA (t0 y)).toList by simp [toksV], List.length_append]
            exact hown'
          have G9 : Below w.heap.size w w1 := (galloc G5 _).grown hgrow (by simp; omega) (fun r e => (O5.lt _ e).1)
          clear hown' hgrow O5 O
          go_wp2
          go_roundw
          case rel => exact ⟨k + 1, by omega, by go_num, hown2, G9⟩
          case measure => simp [intOf]; omega
      · have h4e : (cleanL ts k).length = 400 := by omega
        have h4i : ¬ ((cleanL ts k).length : Int) < 400 := by omega
        have d4 : decide (((cleanL ts k).length : Int) < 400) = false := decide_eq_false h4i
        have hfull : cleanL ts n = cleanL ts k := by
          have := cleanL_full ts k h400 (n - k)
          rw [show k + (n - k) = n by omega] at this
          exact this
        rw [h4e] at O d4 ⊢
        go_wp2
        go_ret
        exact ⟨_, rfl, by first | exact O | (rw [hfull, h4e]; exact O), G⟩
    · obtain rfl : k = n := by omega
      go_wp2
      go_ret
      exact ⟨_, rfl, O, G⟩

end Go.Proofs.YtlcmfefcammklabDoor
