/- Places that are greater; where the nodes of what is read stand. -/
import Derived.Test.YtmoimmghmmomlaaDoorPsb
import Derived.Test.YtmoimmghmmomlaaDoorQl
import Derived.OwnWalk
namespace Go.Proofs.YtmoimmghmmomlaaDoor
open Go.RowKit Go.BigFrame
set_option linter.unusedVariables false
set_option linter.unusedSimpArgs false

def inT (x : Int) : Prop := 0 ≤ x ∧ x ≤ 8192
def Rs.inn : Rs → Prop
  | .ok s => (∀ t ∈ s.ts, inT t.a) ∧ ∀ x ∈ s.sp, inT x
  | .bad c e => c = 41 → ∀ t ∈ e, inT t.a
theorem want_mem {k : Int} {ts : List Tok} {t : Tok} {tl : List Tok} (h : want k ts = .ok (t, tl)) : ∀ x ∈ tl, x ∈ ts := by
  obtain ⟨rfl, _⟩ := want_len h
  intro x hx
  exact List.mem_cons_of_mem _ hx
theorem attrP_mem {op : Int} {ts : List Tok} {n : Nd} {tl : List Tok} (h : attrP op ts = .ok (n, tl)) : ∀ x ∈ tl, x ∈ ts := by
  unfold attrP at h
  split at h
  · cases h
  split at h
  · cases h
  split at h
  · cases h
  rename_i h1 _ _ _ h2 _ _ _ h3
  simp only [Except.ok.injEq, Prod.mk.injEq] at h
  obtain ⟨_, rfl⟩ := h
  intro x hx
  exact want_mem h1 x (want_mem h2 x (want_mem h3 x hx))
theorem leafP_mem {ts : List Tok} {n : Nd} {tl : List Tok} (h : leafP ts = .ok (n, tl)) : ∀ x ∈ tl, x ∈ ts := by
  cases ts with
  | nil => simp [leafP] at h
  | cons t r =>
    simp only [leafP] at h
    split at h
    · simp only [Except.ok.injEq, Prod.mk.injEq] at h; obtain ⟨_, rfl⟩ := h; exact fun x hx => List.mem_cons_of_mem _ hx
    split at h
    · simp only [Except.ok.injEq, Prod.mk.injEq] at h; obtain ⟨_, rfl⟩ := h; exact fun x hx => List.mem_cons_of_mem _ hx
    split at h
    · simp only [Except.ok.injEq, Prod.mk.injEq] at h; obtain ⟨_, rfl⟩ := h; exact fun x hx => List.mem_cons_of_mem _ hx
    split at h
    · exact attrP_mem h
    split at h
    · unfold countP at h
      split at h
      · cases h
      split at h
      · cases h
      split at h
      · cases h
      rename_i h1 _ _ _ h2 _ _ _ h3
      simp only [Except.ok.injEq, Prod.mk.injEq] at h
      obtain ⟨_, rfl⟩ := h
      intro x hx
      exact List.mem_cons_of_mem _ (want_mem h1 x (want_mem h2 x (want_mem h3 x hx)))
    split at h
    · unfold aggP at h
      split at h
      · cases h
      split at h
      · cases h
      split at h
      · cases h
      rename_i h1 _ _ _ h2 _ _ _ h3
      simp only [Except.ok.injEq, Prod.mk.injEq] at h
      obtain ⟨_, rfl⟩ := h
      intro x hx
      exact List.mem_cons_of_mem _ (want_mem h1 x (attrP_mem h2 x (want_mem h3 x hx)))
    · cases h
theorem leafR_inn (s : Ps) (h : (Rs.ok s).inn) : (leafR s).inn := by
  unfold leafR
  cases hp : leafP s.ts with
  | error e => exact fun h => absurd h (by decide)
  | ok p =>
    obtain ⟨n, tl⟩ := p
    refine ⟨fun t ht => h.1 t (leafP_mem hp t ht), fun x hx => ?_⟩
    simp only [Ps.add, List.mem_append, List.mem_singleton] at hx
    rcases hx with hx | rfl
    · exact h.2 x hx
    · cases hs : s.ts with
      | nil => rw [hs] at hp; simp [leafP] at hp
      | cons t r => exact h.1 t (by rw [hs]; exact List.mem_cons_self ..)
theorem bin_inn {m : Rs} {t : Tok} (a : Nat) (h : m.inn) (ht : inT t.a) : (m.bin t a).inn := by
  cases m with
  | bad c e => exact h
  | ok s =>
    refine ⟨h.1, fun x hx => ?_⟩
    simp only [Ps.add, List.mem_append, List.mem_singleton] at hx
    rcases hx with hx | rfl
    · exact h.2 x hx
    · exact ht
theorem un_inn {m : Rs} {t : Tok} (op : Int) (h : m.inn) (ht : inT t.a) : (m.un op t).inn := by
  cases m with
  | bad c e => exact h
  | ok s =>
    refine ⟨h.1, fun x hx => ?_⟩
    simp only [Ps.add, List.mem_append, List.mem_singleton] at hx
    rcases hx with hx | rfl
    · exact h.2 x hx
    · exact ht
theorem Rd.inn {v : Lv} {s r : Rs} (h : Rd v s r) : s.inn → r.inn := by
  induction h with
  | err v c e => exact id
  | lft hl h k i1 i2 => exact fun q => i2 (i1 q)
  | stop hk => exact id
  | more hk h k i1 i2 => exact fun q => i2 (bin_inn _ (i1 ⟨fun t ht => q.1 t (List.mem_cons_of_mem _ ht), q.2⟩) (q.1 _ (List.mem_cons_self ..)))
  | cmp h k i1 i2 => exact fun q => i2 (i1 q)
  | cstop hk => exact id
  | cmore hk h i1 => exact fun q => bin_inn _ (i1 ⟨fun t ht => q.1 t (List.mem_cons_of_mem _ ht), q.2⟩) (q.1 _ (List.mem_cons_self ..))
  | pre hl hk ho h i1 => exact fun q => un_inn _ (i1 ⟨fun t ht => q.1 t (List.mem_cons_of_mem _ ht), q.2⟩) (q.1 _ (List.mem_cons_self ..))
  | deep hl hk => exact fun q _ => q.1
  | thru hl hk h i1 => exact i1
  | @brk t tl o ns sp m hk ho h i1 => exact fun q => (by
      have h2 := i1 ⟨fun t ht => q.1 t (List.mem_cons_of_mem _ ht), q.2⟩
      cases m with
      | bad c e => exact h2
      | ok s =>
        simp only [Rs.shut]
        cases hw : want 4 s.ts with
        | error e => exact fun h => absurd h (by decide)
        | ok p =>
          obtain ⟨t2, tl2⟩ := p
          exact ⟨fun t ht => h2.1 t (want_mem hw t ht), h2.2⟩)
  | bdeep hk => exact fun q _ => q.1
  | leaf hk => exact leafR_inn _
theorem lexO_inn (s : ByteArray) {T : List Tok} (h : lexO s = (T, 0, 0)) : ∀ t ∈ T, inT t.a := by
  rcases lexO_cases s with ⟨_, h2⟩ | ⟨hs, us, hP, h2⟩ | ⟨_, q, us, c, _, _, hc, h2⟩
  · rw [h] at h2; simp at h2
  · rw [h] at h2
    simp only [Prod.mk.injEq, and_true] at h2
    subst h2
    intro t ht
    obtain ⟨k, hk, rfl⟩ := List.getElem_of_mem ht
    obtain ⟨r, hr, hr2, _⟩ := hP.tok k (Nat.zero_le _) hk
    rw [List.getD_eq_getElem?_getD, List.getElem?_eq_getElem hk] at hr
    simp only [Option.getD_some] at hr
    unfold inT
    omega
  · rw [h] at h2; simp only [Prod.mk.injEq] at h2; exact absurd h2.2.1.symm hc.1
/-- Where the nodes stand, and how many there are. -/
theorem exO_inn (s : ByteArray) (h0 : (exO s).2.2.1 = 0) : ∀ x ∈ (exO s).2.1, inT x := by
  by_cases hL : (lexO s).2.1 ≠ 0
  · have e : exO s = ([], [], (lexO s).2.1, ((lexO s).2.2 : Int)) := by unfold exO; rw [if_pos hL]
    rw [e]
    intro x hx
    simp at hx
  · obtain ⟨T, hT⟩ : ∃ T, lexO s = (T, 0, 0) := by
      rcases lexO_cases s with ⟨_, h⟩ | ⟨_, us, _, h⟩ | ⟨_, q, us, c, _, _, hc, h⟩
      · rw [h] at hL; exact absurd (by decide) hL
      · exact ⟨us, h⟩
      · rw [h] at hL; exact absurd hc.1 hL
    have hi := (exR_rd T).inn ⟨lexO_inn s hT, fun x hx => by simp at hx⟩
    have hx : exO s = match wholeP T with
        | .ok (ns, sp) => (ns, sp, 0, 0)
        | .error (c, x) => ([], [], c, plc s.size x) := by
      unfold exO
      rw [hT, if_neg (by simp)]
      rfl
    have hwp : wholeP T = match exR T with
        | .bad c e => .error (c, e)
        | .ok s => match s.ts with | [] => .ok (s.ns, s.sp) | t :: tl => .error (40, t :: tl) := by
      unfold wholeP treeP
      cases exR T with
      | bad c e => rfl
      | ok s => cases hs : s.ts <;> simp [hs, endP, bind, Except.bind, pure, Except.pure]
    cases hr : exR T with
    | bad c e =>
      rw [hr] at hwp
      simp only at hwp
      rw [hx, hwp]
      intro x hx
      simp at hx
    | ok q =>
      rw [hr] at hwp hi
      simp only at hwp
      cases hts : q.ts with
      | nil =>
        rw [hts] at hwp
        simp only at hwp
        rw [hx, hwp]
        exact hi.2
      | cons t0 r =>
        rw [hts] at hwp
        simp only at hwp
        rw [hx, hwp]
        intro x hx
        simp at hx
theorem exO_len (s : ByteArray) : (exO s).2.1.length ≤ 400 := by
  by_cases hL : (lexO s).2.1 ≠ 0
  · have e : exO s = ([], [], (lexO s).2.1, ((lexO s).2.2 : Int)) := by unfold exO; rw [if_pos hL]
    rw [e]
    exact Nat.zero_le _
  · obtain ⟨T, hT⟩ : ∃ T, lexO s = (T, 0, 0) := by
      rcases lexO_cases s with ⟨_, h⟩ | ⟨_, us, _, h⟩ | ⟨_, q, us, c, _, _, hc, h⟩
      · rw [h] at hL; exact absurd (by decide) hL
      · exact ⟨us, h⟩
      · rw [h] at hL; exact absurd hc.1 hL
    have h4 : T.length ≤ 400 := by have := lexO_len s; rw [hT] at this; exact this
    have hx : exO s = match wholeP T with
        | .ok (ns, sp) => (ns, sp, 0, 0)
        | .error (c, x) => ([], [], c, plc s.size x) := by
      unfold exO
      rw [hT, if_neg (by simp)]
      rfl
    have hwp : wholeP T = match exR T with
        | .bad c e => .error (c, e)
        | .ok s => match s.ts with | [] => .ok (s.ns, s.sp) | t :: tl => .error (40, t :: tl) := by
      unfold wholeP treeP
      cases exR T with
      | bad c e => rfl
      | ok s => cases hs : s.ts <;> simp [hs, endP, bind, Except.bind, pure, Except.pure]
    have hinv := (exR_rd T).inv
    cases hr : exR T with
    | bad c e =>
      rw [hr] at hwp
      simp only at hwp
      rw [hx, hwp]
      exact Nat.zero_le _
    | ok q =>
      rw [hr] at hwp
      simp only at hwp
      obtain ⟨_, i1, i2⟩ := hinv _ _ rfl hr
      have i3 := i2 rfl
      cases hts : q.ts with
      | nil =>
        rw [hts] at hwp
        simp only at hwp
        rw [hx, hwp]
        show q.sp.length ≤ 400
        simp at i1
        omega
      | cons t0 r =>
        rw [hts] at hwp
        simp only at hwp
        rw [hx, hwp]
        exact Nat.zero_le _
theorem exO_deep (s : ByteArray) (h0 : (exO s).2.2.1 = 41) : inT (exO s).2.2.2 := by
  by_cases hL : (lexO s).2.1 ≠ 0
  · have e : exO s = ([], [], (lexO s).2.1, ((lexO s).2.2 : Int)) := by unfold exO; rw [if_pos hL]
    rw [e] at h0
    exact absurd h0 (lexO_code s)
  · obtain ⟨T, hT⟩ : ∃ T, lexO s = (T, 0, 0) := by
      rcases lexO_cases s with ⟨_, h⟩ | ⟨_, us, _, h⟩ | ⟨_, q, us, c, _, _, hc, h⟩
      · rw [h] at hL; exact absurd (by decide) hL
      · exact ⟨us, h⟩
      · rw [h] at hL; exact absurd hc.1 hL
    have hi := (exR_rd T).inn ⟨lexO_inn s hT, fun x hx => by simp at hx⟩
    have htold := exR_told T
    have hx : exO s = match wholeP T with
        | .ok (ns, sp) => (ns, sp, 0, 0)
        | .error (c, x) => ([], [], c, plc s.size x) := by
      unfold exO
      rw [hT, if_neg (by simp)]
      rfl
    have hwp : wholeP T = match exR T with
        | .bad c e => .error (c, e)
        | .ok s => match s.ts with | [] => .ok (s.ns, s.sp) | t :: tl => .error (40, t :: tl) := by
      unfold wholeP treeP
      cases exR T with
      | bad c e => rfl
      | ok s => cases hs : s.ts <;> simp [hs, endP, bind, Except.bind, pure, Except.pure]
    cases hr : exR T with
    | bad c e =>
      rw [hr] at hwp hi htold
      simp only at hwp
      rw [hx, hwp] at h0 ⊢
      replace h0 : c = 41 := h0
      show inT (plc s.size e)
      cases e with
      | nil => rcases htold with h | h; (rw [h] at h0; exact absurd h0 (by decide)); exact absurd rfl h.2
      | cons t0 r => exact hi h0 t0 (List.mem_cons_self ..)
    | ok q =>
      rw [hr] at hwp
      simp only at hwp
      cases hts : q.ts with
      | nil =>
        rw [hts] at hwp
        simp only at hwp
        rw [hx, hwp] at h0
        simp at h0
      | cons t0 r =>
        rw [hts] at hwp
        simp only at hwp
        rw [hx, hwp] at h0
        simp at h0
def movL (d : Nat) (l : List Int) : List Int := l.map (· + (d : Int))

set_option maxRecDepth 100000 in
set_option maxHeartbeats 4000000 in
theorem moved_any (l : List Int) (hl : l.length ≤ 100000000) (hx : ∀ x ∈ l, inT x) (d : Nat) (hd : d ≤ 9000) (b1 : Nat) (v1 : Value) (w : World) (A : w.ownsRow b1 3 1 v1 l.length (intsV l)) :
    Calls Tryd.prog 17 #[v1, .int .i64 d] w fun e w' => ∃ v, e = .returned v ∧ w'.ownsRow w.heap.size 3 1 v l.length (intsV (movL d l)) ∧ Below w.heap.size w w' := by
  obtain ⟨i0, hi, hz0, hz1, hz2⟩ := info_of infoI
  obtain ⟨ao, c1, rfl⟩ := own_shape A
  obtain ⟨n, hn⟩ : ∃ n, l.length = n := ⟨_, rfl⟩
  rw [hn] at hl A ⊢
  go_enter Tryd.func17, Tryd.ntmps17
  go_wp2
  go_loopw [5, 6] (fun o x wr => ∃ k : Nat, k ≤ n ∧ x = .int .i64 k ∧ wr.ownsRow w.heap.size 3 1 o k (intsV (movL d (l.take k))) ∧ Below w.heap.size w wr) (fun _ x _ => n - (intOf x).toNat)
  case atStart => exact ⟨0, Nat.zero_le _, rfl, World.ownsRow_nil _ _ _ _, Below.refl _ _⟩
  case round =>
    obtain ⟨k, hk, rfl, O, G⟩ := hrel
    have zG := G.size
    obtain ⟨vo, vc, rfl⟩ := own_shape O
    by_cases hlt : k < n
    · obtain ⟨g1, rfl, hg1⟩ := own_addr A (by omega)
      have x0 : w.cell? ⟨g1, k, none⟩ = some (.int .i64 (l.getD k 0)) := by
        rw [World.ownsRow.cellAt A k (by omega)]
        have : k < l.length := by omega
        simp [intsV, List.getD, List.getElem?_eq_getElem this]
      replace x0 := (G.cell (p := ⟨_, _, none⟩) hg1).trans x0
      have hz : inT (l.getD k 0) := hx _ (by rw [List.getD_eq_getElem?_getD, List.getElem?_eq_getElem (by omega)]; exact List.getElem_mem _)
      have HM : Hid (intsV (movL d (l.take (k + 1))) = intsV (movL d (l.take k)) ++ [.int .i64 (l.getD k 0 + d)]) := by
        show _ = _
        have : k < l.length := by omega
        unfold movL
        rw [List.take_add_one]
        simp only [intsV, List.map_append, List.getD, List.getElem?_eq_getElem this, Option.toList_some, Option.getD_some, List.map_cons, List.map_nil]
      generalize l.getD k 0 = z at *
      obtain ⟨hz0', hz1'⟩ := hz
      clear A
      go_wp2_with (at_builtin; refine wpList_append_own _ rfl (.tmp 13) (.tmp 20) 31 rfl w.heap.size 3 i0 (.int .i64 0) 1 8 Tryd.underlying31 hi hz0 hz1 hz2 rfl (by decide) _ _ _ rfl (O.alloc _) ⟨wr.heap.size, 0, none⟩ 1 1 [.int .i64 (z + d)] rfl rfl (cell_one_new _ _ _) (by intro u hu; simp at hu; subst hu; rfl) ?c3 ?c4 ?c5 ?_)
      case c3 => unfold maxLen; omega
      case c4 => omega
      case c5 => first | omega | (simp; omega)
      intro v' w1 hown' hgrow _
      rw [← HM.out] at hown'
      have G9 : Below w.heap.size w w1 := (galloc G _).grown hgrow (by simp; omega) (fun r e => (O.lt _ e).1)
      clear hgrow O
      go_wp2
      go_roundw
      case rel => exact ⟨k + 1, by omega, by go_num, hown', G9⟩
      case measure => simp [intOf]; omega
    · obtain rfl : k = n := by omega
      rw [List.take_of_length_le (by omega)] at O
      go_wp2
      go_ret
      exact ⟨_, rfl, O, G⟩

end Go.Proofs.YtmoimmghmmomlaaDoor
