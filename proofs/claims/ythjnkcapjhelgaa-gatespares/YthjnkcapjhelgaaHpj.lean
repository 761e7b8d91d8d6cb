/- A pile as what it holds, in its order. -/
import Derived.Test.YthjnkcapjhelgaaHpi
import Derived.Test.YthjnkcapjhelgaaMk0
namespace Go.Proofs.Ythjnkcapjhelgaa
open Go.RowKit Go.BigFrame
set_option linter.unusedVariables false
set_option linter.unusedSimpArgs false

theorem own_same {w u : World} {base : Nat} {e : TypeId} {size : Nat} {v : Value} {n : Nat} {xs : List Value} (h : w.ownsRow base e size v n xs) (hk : ∀ g, v.ownBlock = some g → u.heap[g]? = w.heap[g]?) : u.ownsRow base e size v n xs := by
  obtain ⟨h1, h2⟩ := h
  refine ⟨h1, ?_⟩
  rcases h2 with h2 | ⟨g, cap, cur, rfl, hb, hh, r⟩
  · exact .inl h2
  · exact .inr ⟨g, cap, cur, rfl, hb, (hk g rfl).trans hh, r⟩
theorem Pil.keep {TP TL : TypeId} {sz : Nat} {β : Type} {cv : β → Array Value} {w u : World} {p base : Nat} {v : Value} {h : List (β × Nat)} {t : Nat} (P : Pil TP TL sz cv w p base v h t) (G : Below w.heap.size w u) : Pil TP TL sz cv u p base v h t := ⟨P.blk.keep G, own_keep P.own G, P.pb⟩
/-- The pile holds L, in its order, and t is the next turn. -/
def Pa (TP TL : TypeId) (sz : Nat) {β : Type} (cv : β → Array Value) (A : β × Nat → β × Nat → Bool) (z : β × Nat) (w : World) (p base : Nat) (v : Value) (L : List (β × Nat)) (t : Nat) : Prop :=
  ∃ h, Pil TP TL sz cv w p base v h t ∧ h.Perm L ∧ Hp A z h ∧ L.Pairwise (fun a b => A a b = true) ∧ ∀ y ∈ L, t = 0 ∨ y.2 < t
section
variable {TP TL : TypeId} {sz : Nat} {β : Type} {cv : β → Array Value} {A : β × Nat → β × Nat → Bool} {z : β × Nat} {w u : World} {p base : Nat} {v : Value} {L : List (β × Nat)} {t : Nat}
theorem Pa.keep (P : Pa TP TL sz cv A z w p base v L t) (G : Below w.heap.size w u) : Pa TP TL sz cv A z u p base v L t := by
  obtain ⟨h, P, r⟩ := P
  exact ⟨h, P.keep G, r⟩
theorem Pa.blk (P : Pa TP TL sz cv A z w p base v L t) : Bk w p #[v, .int .i64 (t : Int)] TP := by obtain ⟨h, P, _⟩ := P; exact P.blk
theorem Pa.len (P : Pa TP TL sz cv A z w p base v L t) : ∃ ao cap, v = .slice ao L.length cap ∧ L.length ≤ cap := by
  obtain ⟨h, P, hp, _⟩ := P
  obtain ⟨ao, cap, e, hc, _⟩ := own_form P.own
  rw [hp.length_eq] at e hc
  exact ⟨ao, cap, e, hc⟩
theorem Pa.row (P : Pa TP TL sz cv A z w p base v L t) : ∃ xs, w.ownsRow base TL sz v L.length xs := by
  obtain ⟨h, P, hp, _⟩ := P
  rw [← hp.length_eq]
  exact ⟨_, P.own⟩
theorem Pa.sorted (P : Pa TP TL sz cv A z w p base v L t) : L.Pairwise (fun a b => A a b = true) ∧ ∀ y ∈ L, t = 0 ∨ y.2 < t := by obtain ⟨h, P, _, _, r⟩ := P; exact r
/-- A row of another type grows. -/
theorem Pa.far (P : Pa TP TL sz cv A z w p base v L t) {b1 : Nat} {e1 : TypeId} {s1 : Nat} {v1 : Value} {n1 : Nat} {x1 : List Value} (h1 : w.ownsRow b1 e1 s1 v1 n1 x1) (hT : TP ≠ e1) (hL : e1 ≠ TL) (G : w.grownBy u v1.ownBlock) : Pa TP TL sz cv A z u p base v L t := by
  obtain ⟨h, P, r⟩ := P
  exact ⟨h, ⟨bk_far P.blk h1 hT G, ty_far h1 P.own hL G, P.pb⟩, r⟩
/-- Blocks that are neither the pile's nor its row have turned. -/
theorem Pa.same (P : Pa TP TL sz cv A z w p base v L t) (h1 : u.heap[p]? = w.heap[p]?) (h2 : ∀ g, v.ownBlock = some g → u.heap[g]? = w.heap[g]?) : Pa TP TL sz cv A z u p base v L t := by
  obtain ⟨h, P, r⟩ := P
  refine ⟨h, ⟨h1.trans P.blk, ?_, P.pb⟩, r⟩
  obtain ⟨e1, e2⟩ := P.own
  refine ⟨e1, ?_⟩
  rcases e2 with e2 | ⟨g, cap, cur, rfl, hb, hh, r⟩
  · exact .inl e2
  · exact .inr ⟨g, cap, cur, rfl, hb, (h2 g rfl).trans hh, r⟩
end
theorem Gb.grown {p : Nat} {v : Value} {w u x : World} (h : Gb p v w u) {b : Nat} (G : u.grownBy x (some b)) (hb : w.heap.size ≤ b) : Gb p v w x :=
  ⟨G.os.trans h.os, G.tape.trans h.tape, G.output.trans h.output, Nat.le_trans h.size G.size, fun k h1 h2 h3 => (G.block k (Nat.lt_of_lt_of_le h1 h.size) (by simp; omega)).trans (h.blk k h1 h2 h3)⟩
theorem Gb.below {p : Nat} {v : Value} {w u x : World} (h : Gb p v w u) (G : Below u.heap.size u x) : Gb p v w x := h.trans' (Gb.of G)
theorem Gb.setCells {p : Nat} {v : Value} {w u : World} (h : Gb p v w u) {b : Nat} (hb : w.heap.size ≤ b) (vs : List Value) (o : Nat) : Gb p v w (u.setCells b o vs) := by
  have e := setCells_os b vs o u
  exact ⟨e.1.trans h.os, e.2.1.trans h.tape, e.2.2.trans h.output, by rw [setCells_size]; exact h.size, fun k h1 h2 h3 => (setCells_blk b vs o u k (by omega)).trans (h.blk k h1 h2 h3)⟩
abbrev evPa (w : World) (p base : Nat) (v : Value) (L : List (Ev × Nat)) (t : Nat) : Prop := Pa 97 101 12 evC (ahd evLt) (zrEv, 0) w p base v L t
theorem evPush (p base t : Nat) (v : Value) (L : List (Ev × Nat)) (x : Ev) (w : World) (P : evPa w p base v L t) (hl : ((L.length + 1) + (L.length + 1) / 4 + 192) * 96 ≤ 281474976710656) (hbw : base ≤ w.heap.size) (ht : t + 1 ≤ 9223372036854775807) (h00 : t = 0 → L = []) :
    Calls Try.prog 44 #[.pointer (some ⟨p, 0, none⟩), .agg (evC x)] w fun e w' => e = .returned (.tuple #[]) ∧ ∃ v', evPa w' p base v' (ins (ahd evLt) (x, t) L) (t + 1) ∧ Gb p v w w' ∧ (∀ g, v'.ownBlock = some g → v.ownBlock = some g ∨ w.heap.size ≤ g) := by
  obtain ⟨h, P, hp, H, O, T0⟩ := P
  have T : ∀ y ∈ L, y.2 < t := fun y hy => by
    rcases T0 y hy with e | e
    · rw [h00 e] at hy; simp at hy
    · exact e
  refine (evPush0 p base t v h (zrEv, 0) x w P (by rw [hp.length_eq]; exact hl) hbw ht H).mono ?_
  rintro e w' ⟨rfl, v', h', P', hp', H', G, B⟩
  refine ⟨rfl, v', ⟨h', P', ?_, H', ins_sorted (ahd_swo evLt_swo) _ _ (fun y hy e => ?_) O, fun y hy => ?_⟩, G, B⟩
  · exact hp'.trans ((List.perm_append_singleton (x, t) h).trans ((List.Perm.cons _ hp).trans (ins_perm _ _).symm))
  · have := T y hy
    rw [ahd_tot evLt (by show y.2 ≠ t; omega), e]
    rfl
  · rcases (ins_mem _ _ _).1 hy with e | e
    · rw [e]; exact .inr (Nat.lt_succ_self t)
    · have := T y e; omega
theorem evLenA (p base t : Nat) (v : Value) (L : List (Ev × Nat)) (w : World) (P : evPa w p base v L t) : Calls Try.prog 32 #[.pointer (some ⟨p, 0, none⟩)] w fun e w' => e = .returned (.int .i64 (L.length : Int)) ∧ w' = w := by
  obtain ⟨ao, cap, rfl, _⟩ := P.len
  exact evLen p ao L.length cap _ w P.blk
theorem head_some {γ : Type} {L : List γ} {z : γ} (h : 0 < L.length) : ∃ y R, L = y :: R := by
  cases L with
  | nil => simp at h
  | cons y R => exact ⟨y, R, rfl⟩
theorem evPeekA (p base t : Nat) (v : Value) (L : List (Ev × Nat)) (w : World) (P : evPa w p base v L t) : Calls Try.prog 53 #[.pointer (some ⟨p, 0, none⟩)] w fun e w' => e = .returned (evTopV (L.headD (zrEv, 0)).1 (decide (0 < L.length))) ∧ Below w.heap.size w w' := by
  cases L with
  | nil =>
    obtain ⟨ao, cap, rfl, _⟩ := P.len
    exact evPeek_none p ao cap _ w P.blk
  | cons y R =>
    obtain ⟨h, P, hp, H, O, T⟩ := P
    have hlen := hp.length_eq
    have h0 : 0 < h.length := by rw [hlen]; simp
    obtain ⟨g, cap, rfl, _, _⟩ := P.own.form h0
    have := evPeek_some p base g cap t h (zrEv, 0) w P h0
    rw [hp_first (ahd_swo evLt_swo) H hp O] at this
    simpa using this
theorem evPopA (p base t : Nat) (v : Value) (L : List (Ev × Nat)) (w : World) (P : evPa w p base v L t) (hl : L.length ≤ 1000000000000000) : Calls Try.prog 52 #[.pointer (some ⟨p, 0, none⟩)] w fun e w' => e = .returned (evTopV (L.headD (zrEv, 0)).1 (decide (0 < L.length))) ∧ ∃ v', evPa w' p base v' L.tail t ∧ Gb p v w w' ∧ (∀ g, v'.ownBlock = some g → v.ownBlock = some g) := by
  cases L with
  | nil =>
    obtain ⟨ao, cap, rfl, _⟩ := P.len
    refine (evPop_none p ao cap _ w P.blk).mono ?_
    rintro e w' ⟨rfl, G⟩
    exact ⟨rfl, _, P.keep G, Gb.of G, fun g e => e⟩
  | cons y R =>
    obtain ⟨h, P, hp, H, O, T⟩ := P
    have hlen := hp.length_eq
    have h0 : 0 < h.length := by rw [hlen]; simp
    obtain ⟨g, cap, rfl, _, _⟩ := P.own.form h0
    have e0 := hp_first (ahd_swo evLt_swo) H hp O
    refine (evPop_some p base g cap t h (zrEv, 0) w P h0 (by rw [hlen]; exact hl) H).mono ?_
    rintro e w' ⟨rfl, n, h', P', hp', H', G⟩
    rw [e0]
    refine ⟨by simp, _, ⟨h', P', ?_, H', (List.pairwise_cons.1 O).2, fun x hx => T x (List.mem_cons_of_mem _ hx)⟩, G, fun g e => by simpa [Value.ownBlock] using e⟩
    have hc := cutt_perm (z := (zrEv, 0)) h0
    rw [e0] at hc
    exact hp'.trans (List.Perm.cons_inv (hc.trans hp))

end Go.Proofs.Ythjnkcapjhelgaa
