/- The machine of package code, as it is said: what is read of an event, of an item's list; one step; the run. And what goes with it: 6 texts in one. -/
import Derived.Test.YtglagbedgjkdbaaGreatDoorJb13
import Derived.Deep.OwnRows
namespace Go.Proofs.YtglagbedgjkdbaaGreatDoor
open Go.RowKit Go.BigFrame
set_option linter.unusedVariables false
set_option linter.unusedSimpArgs false

structure Ins where
  code : Int
  item : Int
  col : Int
  n : Int
  jt : Int
def insC (i : Ins) : Array Value := #[.int .i64 i.code, .int .i64 i.item, .int .i64 i.col, .int .i64 i.n, .int .i64 i.jt]
def noIn : Ins := ⟨0, 0, 0, 0, 0⟩
structure Ins.ok (i : Ins) : Prop where
  n : fitsB i.n = true
  jt : fitsB i.jt = true
def valC (x : V2) : Array Value := #[.bool x.1, .int .i64 x.2]
def intC (z : Int) : Array Value := #[.int .i64 z]
abbrev noV2 : V2 := (false, 0)
structure Envr where
  lists : List (List Ev)
  each : Int
  at_ : Int

def plcO (col : List Int) (typ : Int) : Int := if typ < 0 ∨ (col.length : Int) ≤ typ then -1 else col.getD typ.toNat 0
def rdP (pl : Int) (e : Ev) : V2 := if pl = -2 then (true, e.ts) else if 0 ≤ pl ∧ pl < 8 then (true, e.at pl.toNat) else noV2
def sayV (f : Int → Int) (l : List Ev) (a : Int) : V2 := if a < 0 ∨ (l.length : Int) ≤ a then noV2 else rdP (f (l.getD a.toNat zeroE).typ) (l.getD a.toNat zeroE)
def fdV (op : Int) (zs : List Int) : V2 := (foldK op zs, foldN op zs)
def rdE (f : Int → Int) (e : Ev) : V2 := rdP (f e.typ) e
def gatV (f : Int → Int) (op : Int) (l : List Ev) : V2 := if l.all (fun e => (rdE f e).1) = true then fdV op (l.map fun e => (rdE f e).2) else noV2
def lstO (E : Envr) (item : Int) : List Ev := if item < 0 ∨ (E.lists.length : Int) ≤ item then [] else E.lists.getD item.toNat []
def menV (f : Int → Int) (op : Int) (E : Envr) (item : Int) : V2 :=
  if op = 4 then sayV f (lstO E item) (if item = E.each then E.at_ else 0)
  else if op = 11 then (if item = E.each then sayV f (lstO E item) (IntKind.i64.wrap (E.at_ - 1)) else noV2)
  else gatV f op (lstO E item)
def opI (c : Int) : Int := if c = 2 then 4 else if c = 3 then 11 else if c ≤ 9 then c + 1 else c + 2
def ndsI (c : Int) : Nat := if c < 10 then 0 else if c = 10 ∨ c = 11 ∨ 25 ≤ c then 1 else 2
def negW (x : V2) : V2 := (opK true x.1 (0 - x.2), opN true x.1 (0 - x.2))
def notW (x : V2) : V2 := (vK (2 - rd x.1 x.2), vN (2 - rd x.1 x.2))
def jmpB (c : Int) (x : V2) : Bool := x.1 && ((rd x.1 x.2 == 2) == (c == 26))
def topV (st : List V2) : V2 := st.getD (st.length - 1) noV2
def sndV (st : List V2) : V2 := st.getD (st.length - 2) noV2
/-- One instruction: the next place and the stack, or a refusal. -/
def stepP (code : List Ins) (cols : List (List Int)) (E : Envr) (p : Nat) (st : List V2) : Option (Nat × List V2) :=
  let i := code.getD p noIn
  if ¬ (0 < i.code ∧ i.code < 27 ∧ ndsI i.code ≤ st.length) then none
  else if i.code = 1 then some (p + 1, st ++ [(true, i.n)])
  else if i.code = 4 then some (p + 1, st ++ [(true, ((lstO E i.item).length : Int))])
  else if i.code < 10 then (if 0 ≤ i.col ∧ i.col < (cols.length : Int) then some (p + 1, st ++ [menV (plcO (cols.getD i.col.toNat [])) (opI i.code) E i.item]) else none)
  else if i.code = 10 then some (p + 1, st.set (st.length - 1) (negW (topV st)))
  else if i.code = 11 then some (p + 1, st.set (st.length - 1) (notW (topV st)))
  else if 25 ≤ i.code then (if (p : Int) < i.jt ∧ i.jt ≤ (code.length : Int) then (if jmpB i.code (topV st) = true then some (i.jt.toNat, st) else some (p + 1, st)) else none)
  else some (p + 1, (st.set (st.length - 2) (applyV (i.code + 2) (sndV st) (topV st))).take (st.length - 1))
def endV (st : List V2) : V2 × Int := if st.length = 1 then (st.getD 0 noV2, 0) else (noV2, 70)
def runW (code : List Ins) (cols : List (List Int)) (E : Envr) (p : Nat) (st : List V2) : V2 × Int :=
  if h : p < code.length then
    match stepP code cols E p st with
    | none => (noV2, 70)
    | some (q, st') => if h2 : p < q then runW code cols E q st' else (noV2, 70)
  else endV st
termination_by code.length - p
theorem runW_end {code : List Ins} {cols : List (List Int)} {E : Envr} {p : Nat} {st : List V2} (h : ¬ p < code.length) : runW code cols E p st = endV st := by
  rw [runW, dif_neg h]
theorem runW_bad {code : List Ins} {cols : List (List Int)} {E : Envr} {p : Nat} {st : List V2} (h : p < code.length) (hs : stepP code cols E p st = none) : runW code cols E p st = (noV2, 70) := by
  rw [runW, dif_pos h, hs]
theorem runW_go {code : List Ins} {cols : List (List Int)} {E : Envr} {p q : Nat} {st st' : List V2} (h : p < code.length) (hs : stepP code cols E p st = some (q, st')) (hq : p < q) : runW code cols E p st = runW code cols E q st' := by
  rw [runW, dif_pos h, hs]
  exact dif_pos hq
/-- All values of a stack are numbers of their type. -/
def fitS (st : List V2) : Prop := ∀ k, fitsB (st.getD k noV2).2 = true
theorem fitS_nil : fitS [] := fun k => by simp; decide
theorem fitS_snoc {st : List V2} (h : fitS st) {x : V2} (hx : fitsB x.2 = true) : fitS (st ++ [x]) := fun k => by
  rcases Nat.lt_or_ge k st.length with e | e
  · have := h k
    rwa [List.getD_eq_getElem?_getD, List.getElem?_append_left e, ← List.getD_eq_getElem?_getD]
  · rw [List.getD_eq_getElem?_getD, List.getElem?_append_right e]
    rcases Nat.eq_zero_or_pos (k - st.length) with e2 | e2
    · rw [e2]; exact hx
    · rw [List.getElem?_eq_none (by simp; omega)]; decide
theorem fitS_set {st : List V2} (h : fitS st) (j : Nat) {x : V2} (hx : fitsB x.2 = true) : fitS (st.set j x) := fun k => by
  rw [List.getD_eq_getElem?_getD, List.getElem?_set]
  have hk := h k
  rw [List.getD_eq_getElem?_getD] at hk
  split
  · split
    · exact hx
    · decide
  · exact hk
theorem fitS_take {st : List V2} (h : fitS st) (n : Nat) : fitS (st.take n) := fun k => by
  rw [List.getD_eq_getElem?_getD, List.getElem?_take]
  have hk := h k
  rw [List.getD_eq_getElem?_getD] at hk
  split
  · exact hk
  · decide
theorem ev_fits {e : Ev} (h : e.ok) (j : Nat) : fitsB (e.at j) = true := by
  by_cases hj : j < 8
  · exact (fits_iff _).2 ⟨h.at0 j hj, h.at1 j hj⟩
  · have : e.at j = 0 := by unfold Ev.at; rw [List.getD_eq_getElem?_getD, List.getElem?_eq_none (by simp; omega)]; rfl
    rw [this]; decide
theorem rdP_fits {e : Ev} (h : e.ok) (pl : Int) : fitsB (rdP pl e).2 = true := by
  unfold rdP
  split
  · exact (fits_iff _).2 ⟨h.t0, h.t1⟩
  split
  · exact ev_fits h _
  · decide
def evsOk (l : List Ev) : Prop := ∀ k, (l.getD k zeroE).ok
theorem sayV_fits {l : List Ev} (h : evsOk l) (f : Int → Int) (a : Int) : fitsB (sayV f l a).2 = true := by
  unfold sayV
  split
  · decide
  · exact rdP_fits (h _) _
theorem fdV_fits (op : Int) (zs : List Int) (h : ∀ j, fitsB (zs.getD j 0) = true) (hl : zs.length ≤ 9223372036854775807) : fitsB (fdV op zs).2 = true := by
  show fitsB (foldN op zs) = true
  unfold foldN
  repeat' split
  all_goals first | exact fitN_fits _ | exact extU_fits _ _ h _ | exact h _ | (rw [fits_iff]; omega)
theorem map_fits {l : List Ev} (h : evsOk l) (f : Int → Int) (j : Nat) : fitsB ((l.map fun e => (rdE f e).2).getD j 0) = true := by
  rw [List.getD_eq_getElem?_getD, List.getElem?_map]
  have := h j
  rw [List.getD_eq_getElem?_getD] at this
  cases e : l[j]? with
  | none => exact (by decide : fitsB 0 = true)
  | some x => rw [e] at this; exact rdP_fits this _
theorem gatV_fits {l : List Ev} (h : evsOk l) (f : Int → Int) (op : Int) (hl : l.length ≤ 9223372036854775807) : fitsB (gatV f op l).2 = true := by
  unfold gatV
  split
  · exact fdV_fits _ _ (map_fits h f) (by simpa using hl)
  · decide
/-- What may stand in an environment. -/
structure Envr.ok (E : Envr) : Prop where
  n : E.lists.length * 24 ≤ 140737488351232
  l : ∀ k, (E.lists.getD k []).length * 88 ≤ 140737488351232
  e : ∀ k, evsOk (E.lists.getD k [])
  f0 : fitsB E.each = true
  f1 : fitsB E.at_ = true
  b : ∀ k, (E.lists.getD k []).length ≤ 2147483647
theorem lstO_ok {E : Envr} (h : E.ok) (i : Int) : evsOk (lstO E i) ∧ (lstO E i).length * 88 ≤ 140737488351232 ∧ (lstO E i).length ≤ 2147483647 := by
  unfold lstO
  split
  · exact ⟨fun k => by simp; exact zeroE_ok, by simp, by simp⟩
  · exact ⟨h.e _, h.l _, h.b _⟩
theorem menV_fits {E : Envr} (h : E.ok) (f : Int → Int) (op i : Int) : fitsB (menV f op E i).2 = true := by
  obtain ⟨h1, h2, _⟩ := lstO_ok h i
  unfold menV
  split
  · exact sayV_fits h1 _ _
  split
  · split
    · exact sayV_fits h1 _ _
    · decide
  · exact gatV_fits h1 _ _ (by omega)
theorem stepP_fits {code : List Ins} {cols : List (List Int)} {E : Envr} (hE : E.ok) (hc : ∀ k, (code.getD k noIn).ok) {p q : Nat} {st st' : List V2} (hs : fitS st) (h : stepP code cols E p st = some (q, st')) : fitS st' := by
  unfold stepP at h
  dsimp only at h
  repeat' split at h
  all_goals first
    | (cases h; done)
    | (simp only [Option.some.injEq, Prod.mk.injEq] at h; obtain ⟨_, rfl⟩ := h)
  · exact fitS_snoc hs (hc _).n
  · exact fitS_snoc hs ((fits_iff _).2 (by have := (lstO_ok hE (code.getD p noIn).item).2.1; omega))
  · exact fitS_snoc hs (menV_fits hE _ _ _)
  · exact fitS_set hs _ (opN_fits _ _ _)
  · exact fitS_set hs _ (vN_fits _)
  · exact hs
  · exact hs
  · exact fitS_take (fitS_set hs _ (applyV_fits _ _ _)) _
theorem stepP_len {code : List Ins} {cols : List (List Int)} {E : Envr} {p q : Nat} {st st' : List V2} (h : stepP code cols E p st = some (q, st')) : p < q ∧ st'.length ≤ st.length + 1 ∧ (q = p + 1 ∨ q ≤ code.length) := by
  unfold stepP at h
  dsimp only at h
  repeat' split at h
  all_goals first
    | (cases h; done)
    | (simp only [Option.some.injEq, Prod.mk.injEq] at h; obtain ⟨rfl, rfl⟩ := h)
  all_goals refine ⟨?_, ?_, ?_⟩
  all_goals first | omega | (simp only [List.length_append, List.length_set, List.length_take, List.length_cons, List.length_nil]; omega)

end Go.Proofs.YtglagbedgjkdbaaGreatDoor
namespace Go.Proofs.YtglagbedgjkdbaaGreatDoor
open Go.RowKit Go.BigFrame
set_option linter.unusedVariables false
set_option linter.unusedSimpArgs false

theorem evC_sz (e : Ev) : (evC e).size = 11 := rfl
theorem insC_sz (i : Ins) : (insC i).size = 5 := rfl
theorem intC_sz (z : Int) : (intC z).size = 1 := rfl
theorem valC_sz (x : V2) : (valC x).size = 2 := rfl
abbrev envA (al : Option Addr) (cl : Nat) (E : Envr) : Value := .agg #[.slice al E.lists.length cl, .int .i64 E.each, .int .i64 E.at_]

set_option maxHeartbeats 400000 in
theorem cknown_any (n : Int) (w : World) :
    Calls Tryz.prog 49 #[.int .i64 n] w fun e w' => e = .returned (.agg #[.bool true, .int .i64 n]) ∧ Below w.heap.size w w' := by
  go_enter Tryz.func49, Tryz.ntmps49
  go_wp2
  exact bodyPost_ret (v := .agg #[.bool true, .int .i64 n]) (by simp [results, Tryz.results49, go_sem]) rfl ⟨rfl, galloc (Below.refl _ _) _⟩

/-- The slice that listOf answers. -/
structure Lsl (w : World) (E : Envr) (item : Int) (a : Option Addr) (c : Nat) : Prop where
  sl : Sl a (lstO E item).length c
  fl : Flat w a (fl evC (lstO E item))
theorem Lsl.keep {w u : World} {E : Envr} {item : Int} {a : Option Addr} {c : Nat} (h : Lsl w E item a c) (G : Below w.heap.size w u) : Lsl u E item a c := ⟨h.sl, h.fl.keep G⟩

set_option maxHeartbeats 1000000 in
theorem listOf_any (E : Envr) (al : Option Addr) (cl : Nat) (item : Int) (w : World) (N : Nst w al evC E.lists) :
    ∃ a c, Lsl w E item a c ∧ ∀ u, Below w.heap.size w u → Calls Tryz.prog 79 #[envA al cl E, .int .i64 item] u fun e w' => e = .returned (.slice a (lstO E item).length c) ∧ Below u.heap.size u w' := by
  by_cases h0 : item < 0 ∨ (E.lists.length : Int) ≤ item
  · have hl : lstO E item = [] := if_pos h0
    rw [hl]
    refine ⟨none, 0, ⟨by rw [hl]; exact ⟨Nat.le_refl _, fun _ => ⟨rfl, rfl⟩⟩, by rw [hl]; exact Flat.nil _ _⟩, fun u G => ?_⟩
    by_cases h1 : item < 0
    · go_enter Tryz.func79, Tryz.ntmps79
      go_wp2
      go_ret
      exact ⟨rfl, galloc (Below.refl _ _) _⟩
    · have h2 : (E.lists.length : Int) ≤ item := by omega
      go_enter Tryz.func79, Tryz.ntmps79
      go_wp2
      go_ret
      exact ⟨rfl, galloc (Below.refl _ _) _⟩
  · obtain ⟨k, rfl⟩ : ∃ k : Nat, item = k := ⟨item.toNat, by omega⟩
    have hk : k < E.lists.length := by omega
    have hl : lstO E (k : Int) = E.lists.getD k [] := if_neg h0
    obtain ⟨g, o, a, c, rfl, a0, hf, hs⟩ := N k hk
    rw [hl]
    refine ⟨a, c, ⟨by rw [hl]; exact hs, by rw [hl]; exact hf⟩, fun u G => ?_⟩
    have a1 := (G.cell (p := ⟨_, _, none⟩) (lt_of_cell a0)).trans a0
    have hg : g < u.heap.size := lt_of_cell a1
    have h1 : ¬ (k : Int) < 0 := by omega
    have h2 : (k : Int) < (E.lists.length : Int) := by omega
    clear h0 a0 G N
    go_enter Tryz.func79, Tryz.ntmps79
    go_wp2
    go_ret
    exact ⟨rfl, galloc (Below.refl _ _) _⟩

set_option maxHeartbeats 1000000 in
theorem count_any (E : Envr) (al : Option Addr) (cl : Nat) (item : Int) (w : World) (N : Nst w al evC E.lists) (hl : (lstO E item).length ≤ 140737488351232) :
    Calls Tryz.prog 50 #[envA al cl E, .int .i64 item] w fun e w' => e = .returned (.agg #[.bool true, .int .i64 ((lstO E item).length : Int)]) ∧ Below w.heap.size w w' := by
  obtain ⟨a, c, L, hc⟩ := listOf_any E al cl item w N
  generalize (lstO E item).length = n at hc hl ⊢
  go_enter Tryz.func50, Tryz.ntmps50
  have B := galloc (galloc (Below.refl w.heap.size w) (.cells #[.slice al E.lists.length cl, .int .i64 E.each, .int .i64 E.at_] 34)) (.cells #[.bool false, .int .i64 0] 51)
  go_wp2_with (first
    | (go_at_call 79; (with_reducible refine (hc _ B).mono ?_); rintro e u ⟨rfl, g0⟩; have B1 := gtrans B g0)
    | (go_at_call 49; (with_reducible refine (cknown_any _ _).mono ?_); rintro e w1 ⟨rfl, g1⟩; have B2 := gtrans B1 g1; have g01 := gtrans g0 g1; obtain ⟨hc0, hf0⟩ := bcell g01))
  refine bodyPost_ret (v := .agg #[.bool true, .int .i64 (n : Int)]) (by simp [results, Tryz.results50, go_sem, hc0]) rfl ⟨rfl, ?_⟩
  exact gset (gset B2 (by simp) _) (by simp) _

set_option maxHeartbeats 1000000 in
theorem place_any (ac : Option Addr) (cc : Nat) (col : List Int) (typ : Int) (w : World) (hf : Flat w ac (fl intC col)) (hl : col.length ≤ 140737488351232) :
    Calls Tryz.prog 53 #[.slice ac col.length cc, .int .i64 typ] w fun e w' => e = .returned (.int .i64 (plcO col typ)) ∧ w = w' := by
  by_cases h0 : typ < 0
  · have : plcO col typ = -1 := if_pos (.inl h0)
    rw [this]
    go_enter Tryz.func53, Tryz.ntmps53
    go_wp2
    go_ret
    exact ⟨rfl, rfl⟩
  by_cases h1 : (col.length : Int) ≤ typ
  · have : plcO col typ = -1 := if_pos (.inr h1)
    rw [this]
    go_enter Tryz.func53, Tryz.ntmps53
    go_wp2
    go_ret
    exact ⟨rfl, rfl⟩
  · obtain ⟨k, rfl⟩ : ∃ k : Nat, typ = k := ⟨typ.toNat, by omega⟩
    have hk : k < col.length := by omega
    have : plcO col (k : Int) = col.getD k 0 := if_neg (by omega)
    rw [this]
    have e1 := fl_at intC_sz 0 col k 0 hk (by omega)
    obtain ⟨g, o, rfl, hg, hc⟩ := hf.form (by rw [fl_len intC_sz]; omega)
    rw [Nat.mul_one, Nat.add_zero] at e1
    have a0 := hc k (.int .i64 (col.getD k 0)) e1
    have h2 : (k : Int) < (col.length : Int) := by omega
    generalize col.getD k 0 = z at a0 ⊢
    clear e1 hc hf this
    go_enter Tryz.func53, Tryz.ntmps53
    go_wp2
    go_ret
    exact ⟨rfl, rfl⟩

set_option maxHeartbeats 1000000 in
theorem opOf_any (c : Int) (w : World) (h0 : 0 < c) (h1 : c < 27) :
    Calls Tryz.prog 52 #[.int .i64 c] w fun e w' => e = .returned (.int .i64 (opI c)) ∧ w = w' := by
  by_cases h2 : c = 2
  · subst h2
    go_enter Tryz.func52, Tryz.ntmps52
    go_wp2
    go_ret
    exact ⟨rfl, rfl⟩
  by_cases h3 : c = 3
  · subst h3
    go_enter Tryz.func52, Tryz.ntmps52
    go_wp2
    go_ret
    exact ⟨rfl, rfl⟩
  have e2 : (c == 2) = false := beq_eq_false_iff_ne.2 h2
  have e3 : (c == 3) = false := beq_eq_false_iff_ne.2 h3
  by_cases h9 : c ≤ 9
  · have : opI c = 6 + (c - 5) := by unfold opI; rw [if_neg h2, if_neg h3, if_pos h9]; omega
    rw [this]
    go_enter Tryz.func52, Tryz.ntmps52
    go_wp2
    go_ret
    exact ⟨rfl, rfl⟩
  · have : opI c = 14 + (c - 12) := by unfold opI; rw [if_neg h2, if_neg h3, if_neg h9]; omega
    rw [this]
    go_enter Tryz.func52, Tryz.ntmps52
    go_wp2
    go_ret
    exact ⟨rfl, rfl⟩

set_option maxHeartbeats 1000000 in
theorem jumps_any (c : Int) (x : V2) (w : World) :
    Calls Tryz.prog 56 #[.int .i64 c, VA x] w fun e w' => e = .returned (.bool (jmpB c x)) ∧ Below w.heap.size w w' := by
  obtain ⟨k, n⟩ := x
  cases k
  · show Calls _ _ _ _ fun e w' => e = .returned (.bool false) ∧ _
    go_enter Tryz.func56, Tryz.ntmps56
    go_wp2
    go_ret
    exact ⟨rfl, galloc (Below.refl _ _) _⟩
  · show Calls _ _ _ _ fun e w' => e = .returned (.bool ((rd true n == 2) == (c == 26))) ∧ _
    generalize hr : (rd true n == 2) = r
    go_enter Tryz.func56, Tryz.ntmps56
    go_wp2_with (go_at_call 15; (with_reducible refine (true_any true n _).mono ?_); rintro e w0 ⟨rfl, g0⟩; rw [hr])
    go_ret
    exact ⟨rfl, gtrans (galloc (Below.refl _ _) _) g0⟩

/-- The operands' table as the text lays it. -/
structure OpAt (w : World) : Prop where
  sz : 0 < w.heap.size
  at_ : ∀ i : Nat, 0 < i → i < 27 → w.cell? ⟨0, i, none⟩ = some (.int .i64 (ndsI i : Int))
theorem OpAt.keep {w u : World} (h : OpAt w) (G : Below w.heap.size w u) : OpAt u := ⟨Nat.lt_of_lt_of_le h.sz G.size, fun i h0 h1 => (G.cell (p := ⟨_, _, none⟩) h.sz).trans (h.at_ i h0 h1)⟩

set_option maxHeartbeats 1000000 in
theorem isReady_any (c : Int) (n : Nat) (w : World) (hO : OpAt w) :
    Calls Tryz.prog 48 #[.int .i64 c, .int .i64 (n : Int)] w fun e w' => e = .returned (.bool (decide (0 < c ∧ c < 27 ∧ ndsI c ≤ n))) ∧ w = w' := by
  by_cases h0 : 0 < c
  · by_cases h1 : c < 27
    · obtain ⟨k, rfl⟩ : ∃ k : Nat, c = k := ⟨c.toNat, by omega⟩
      have a0 := hO.at_ k (by omega) (by omega)
      have hz := hO.sz
      generalize ndsI (k : Int) = m at a0 ⊢
      by_cases h2 : m ≤ n
      · have h3 : (m : Int) ≤ (n : Int) := by omega
        rw [decide_eq_true (show 0 < (k : Int) ∧ (k : Int) < 27 ∧ m ≤ n from ⟨h0, h1, h2⟩)]
        clear h2
        go_enter Tryz.func48, Tryz.ntmps48
        go_wp2
        go_ret
        exact ⟨rfl, rfl⟩
      · have h3 : ¬ (m : Int) ≤ (n : Int) := by omega
        rw [decide_eq_false (show ¬ (0 < (k : Int) ∧ (k : Int) < 27 ∧ m ≤ n) from fun h => h2 h.2.2)]
        clear h2
        go_enter Tryz.func48, Tryz.ntmps48
        go_wp2
        go_ret
        exact ⟨rfl, rfl⟩
    · rw [decide_eq_false (show ¬ (0 < c ∧ c < 27 ∧ ndsI c ≤ n) from fun h => h1 h.2.1)]
      go_enter Tryz.func48, Tryz.ntmps48
      go_wp2
      go_ret
      exact ⟨rfl, rfl⟩
  · rw [decide_eq_false (show ¬ (0 < c ∧ c < 27 ∧ ndsI c ≤ n) from fun h => h0 h.1)]
    go_enter Tryz.func48, Tryz.ntmps48
    go_wp2
    go_ret
    exact ⟨rfl, rfl⟩

end Go.Proofs.YtglagbedgjkdbaaGreatDoor
namespace Go.Proofs.YtglagbedgjkdbaaGreatDoor
open Go.RowKit Go.BigFrame
set_option linter.unusedVariables false
set_option linter.unusedSimpArgs false

/-- A column's place, bound. -/
abbrev plcF (ac : Option Addr) (n c : Nat) : Value := .func (.func 53) #[.slice ac n c] #[]
theorem ev_ats (e : Ev) (j : Nat) (hj : j < 8) (w : World) (T : TypeId) : (w.alloc (.cells (evC e) T)).cell? ⟨w.heap.size, 3 + j, none⟩ = some (.int .i64 (e.at j)) := by
  rw [World.cell?_alloc_new]
  have := evC_at e j hj
  simpa using this

set_option maxRecDepth 100000 in
set_option maxHeartbeats 2000000 in
theorem read_any' (ac : Option Addr) (cc : Nat) (col : List Int) (e : Ev) (w : World) (hf : Flat w ac (fl intC col)) (hl : col.length ≤ 140737488351232) :
    Calls Tryz.prog 115 #[plcF ac col.length cc, .agg (evC e)] w fun r w' => r = .returned (VA (rdE (plcO col) e)) ∧ Below w.heap.size w w' := by
  have B := galloc (galloc (Below.refl w.heap.size w) (.cells (evC e) 76)) (.cells #[.bool false, .int .i64 0] 51)
  have hp := place_any ac cc col e.typ _ (hf.keep B) hl
  unfold rdE
  generalize plcO col e.typ = pl at hp ⊢
  by_cases h2 : pl = -2
  · subst h2
    rw [show rdP (-2) e = (true, e.ts) from rfl]
    go_enter Tryz.func115, Tryz.ntmps115
    unfold evC at B hp ⊢
    go_wp2_with (first
      | (go_at_call 53; (with_reducible refine hp.mono ?_); rintro _ _ ⟨rfl, rfl⟩)
      | (go_at_call 49; (with_reducible refine (cknown_any _ _).mono ?_); rintro _ w1 ⟨rfl, g1⟩; have B2 := gtrans B g1; obtain ⟨hc0, hf0⟩ := bcell g1))
    refine bodyPost_ret (v := .agg #[.bool true, .int .i64 e.ts]) (by simp [results, Tryz.results115, go_sem, hc0]) rfl ⟨rfl, ?_⟩
    exact gset (gset B2 (by simp) _) (by simp) _
  have q2 : (pl == -2) = false := beq_eq_false_iff_ne.2 h2
  by_cases h3 : 0 ≤ pl ∧ pl < 8
  · obtain ⟨j, rfl⟩ : ∃ j : Nat, pl = j := ⟨pl.toNat, by omega⟩
    have hj : j < 8 := by omega
    obtain ⟨h30, h31⟩ := h3
    have e1 : rdP (j : Int) e = (true, e.at j) := by unfold rdP; rw [if_neg h2, if_pos ⟨h30, h31⟩]; rfl
    rw [e1]
    clear h2 e1 h30 h31
    rcases (show j = 0 ∨ j = 1 ∨ j = 2 ∨ j = 3 ∨ j = 4 ∨ j = 5 ∨ j = 6 ∨ j = 7 from by omega) with rfl | rfl | rfl | rfl | rfl | rfl | rfl | rfl
    all_goals
      go_enter Tryz.func115, Tryz.ntmps115
      unfold evC at B hp ⊢
      go_wp2_with (first
        | (go_at_call 53; (with_reducible refine hp.mono ?_); rintro _ _ ⟨rfl, rfl⟩)
        | (go_at_call 49; (with_reducible refine (cknown_any _ _).mono ?_); rintro _ w1 ⟨rfl, g1⟩; have B2 := gtrans B g1; obtain ⟨hc0, hf0⟩ := bcell g1))
      refine bodyPost_ret (v := .agg #[.bool true, .int .i64 _]) (by simp [results, Tryz.results115, go_sem, hc0]; first | rfl | done) rfl ⟨rfl, ?_⟩
      exact gset (gset B2 (by simp) _) (by simp) _
  · have e1 : rdP pl e = noV2 := by unfold rdP; rw [if_neg h2, if_neg h3]
    rw [e1]
    by_cases h4 : 0 ≤ pl
    · have h5 : ¬ pl < 8 := fun h => h3 ⟨h4, h⟩
      go_enter Tryz.func115, Tryz.ntmps115
      unfold evC at B hp ⊢
      clear h2 e1 h3
      go_wp2_with (first
        | (go_at_call 53; (with_reducible refine hp.mono ?_); rintro _ _ ⟨rfl, rfl⟩))
      refine bodyPost_ret (v := .agg #[.bool false, .int .i64 0]) (by simp [results, Tryz.results115, go_sem]) rfl ⟨rfl, ?_⟩
      first | exact B | exact gset (gset B (by simp) _) (by simp) _
    · go_enter Tryz.func115, Tryz.ntmps115
      unfold evC at B hp ⊢
      clear h2 e1 h3
      go_wp2_with (first
        | (go_at_call 53; (with_reducible refine hp.mono ?_); rintro _ _ ⟨rfl, rfl⟩))
      refine bodyPost_ret (v := .agg #[.bool false, .int .i64 0]) (by simp [results, Tryz.results115, go_sem]) rfl ⟨rfl, ?_⟩
      first | exact B | exact gset (gset B (by simp) _) (by simp) _

/-- The cells of an event of a row. -/
structure EvAt (w : World) (g o : Nat) (e : Ev) : Prop where
  c0 : w.cell? ⟨g, o, none⟩ = some (.int .i64 e.ts)
  c1 : w.cell? ⟨g, o + 1, none⟩ = some (.int .u64 e.id)
  c2 : w.cell? ⟨g, o + 2, none⟩ = some (.int .i64 e.typ)
  c3 : w.cell? ⟨g, o + 3, none⟩ = some (.int .i64 e.a0)
  c4 : w.cell? ⟨g, o + 4, none⟩ = some (.int .i64 e.a1)
  c5 : w.cell? ⟨g, o + 5, none⟩ = some (.int .i64 e.a2)
  c6 : w.cell? ⟨g, o + 6, none⟩ = some (.int .i64 e.a3)
  c7 : w.cell? ⟨g, o + 7, none⟩ = some (.int .i64 e.a4)
  c8 : w.cell? ⟨g, o + 8, none⟩ = some (.int .i64 e.a5)
  c9 : w.cell? ⟨g, o + 9, none⟩ = some (.int .i64 e.a6)
  c10 : w.cell? ⟨g, o + 10, none⟩ = some (.int .i64 e.a7)
theorem ev_at {w : World} {g o : Nat} {l : List Ev} (h : ∀ j u, (fl evC l)[j]? = some u → w.cell? ⟨g, o + j, none⟩ = some u) (k : Nat) (hk : k < l.length) : EvAt w g (o + k * 11) (l.getD k zeroE) := by
  have key : ∀ j u, j < 11 → (evC (l.getD k zeroE)).toList[j]? = some u → w.cell? ⟨g, o + k * 11 + j, none⟩ = some u := fun j u hj hu => by
    rw [Nat.add_assoc]
    exact h _ _ ((fl_at evC_sz zeroE l k j hk hj).trans hu)
  exact ⟨key 0 _ (by omega) rfl, key 1 _ (by omega) rfl, key 2 _ (by omega) rfl, key 3 _ (by omega) rfl, key 4 _ (by omega) rfl, key 5 _ (by omega) rfl, key 6 _ (by omega) rfl, key 7 _ (by omega) rfl, key 8 _ (by omega) rfl, key 9 _ (by omega) rfl, key 10 _ (by omega) rfl⟩

set_option maxRecDepth 100000 in
set_option maxHeartbeats 2000000 in
theorem readAt_any (ac : Option Addr) (cc : Nat) (col : List Int) (a : Option Addr) (c : Nat) (l : List Ev) (p : Int) (w : World) (hf : Flat w ac (fl intC col)) (hl : col.length ≤ 140737488351232) (hA : Flat w a (fl evC l)) (hn : l.length * 88 ≤ 140737488351232) :
    Calls Tryz.prog 80 #[plcF ac col.length cc, .slice a l.length c, .int .i64 p] w fun r w' => r = .returned (VA (sayV (plcO col) l p)) ∧ Below w.heap.size w w' := by
  have B := galloc (Below.refl w.heap.size w) (.cells #[.bool false, .int .i64 0] 51)
  by_cases h0 : p < 0
  · rw [show sayV (plcO col) l p = noV2 from if_pos (.inl h0)]
    go_enter Tryz.func80, Tryz.ntmps80
    go_wp2
    exact bodyPost_ret (v := .agg #[.bool false, .int .i64 0]) (by simp [results, Tryz.results80, go_sem]) rfl ⟨rfl, by first | exact B | exact gset (gset B (by simp) _) (by simp) _⟩
  by_cases h1 : (l.length : Int) ≤ p
  · rw [show sayV (plcO col) l p = noV2 from if_pos (.inr h1)]
    go_enter Tryz.func80, Tryz.ntmps80
    go_wp2
    exact bodyPost_ret (v := .agg #[.bool false, .int .i64 0]) (by simp [results, Tryz.results80, go_sem]) rfl ⟨rfl, by first | exact B | exact gset (gset B (by simp) _) (by simp) _⟩
  obtain ⟨k, rfl⟩ : ∃ k : Nat, p = k := ⟨p.toNat, by omega⟩
  have hk : k < l.length := by omega
  have hki : (k : Int) < (l.length : Int) := by omega
  have e1 : sayV (plcO col) l (k : Int) = rdE (plcO col) (l.getD k zeroE) := if_neg (by omega)
  rw [e1]
  obtain ⟨g, o, rfl, hg, hcc⟩ := hA.form (by rw [fl_len evC_sz]; omega)
  have A := ev_at hcc k hk
  generalize l.getD k zeroE = ev at A ⊢
  have hr := read_any' ac cc col ev _ (hf.keep B) hl
  obtain ⟨c0, c1, c2, c3, c4, c5, c6, c7, c8, c9, c10⟩ := A
  generalize rdE (plcO col) ev = x at hr ⊢
  unfold evC at hr
  clear hcc hA e1
  go_enter Tryz.func80, Tryz.ntmps80
  go_wp2_with (first
    | (go_at_call 115; (with_reducible refine hr.mono ?_); rintro _ w1 ⟨rfl, g1⟩; have B2 := gtrans B g1; obtain ⟨hc0, hf0⟩ := bcell g1))
  refine bodyPost_ret (v := VA x) (by simp [results, Tryz.results80, go_sem, hc0]) rfl ⟨rfl, ?_⟩
  exact gset (gset B2 (by simp) _) (by simp) _

end Go.Proofs.YtglagbedgjkdbaaGreatDoor
namespace Go.Proofs.YtglagbedgjkdbaaGreatDoor
open Go.RowKit Go.BigFrame
set_option linter.unusedVariables false
set_option linter.unusedSimpArgs false

theorem run_make_cap {P : Program} (t e : TypeId) {z : Value} {sz by_ : Nat} (ht : P.underlying t = some (.slice e)) (nf : (P.info? e).map (fun i => (i.zero, i.size, i.bytes)) = some (some z, sz, by_)) (n : Nat) (hb : by_ * n ≤ 281474976710656) (h63 : n ≤ 9223372036854775807) :
    ∃ M : Array Value, M.size = n * sz ∧ ∀ w : World, (Instr.makeSlice t (.int .i64 0) (.int .i64 (n : Int))).run P w = .ok (.slice (some ⟨w.heap.size, 0, none⟩) 0 n) (w.alloc (.cells M e)) := by
  obtain ⟨i, hi, hz, hs, hby⟩ := nf_info nf
  subst hs hby
  have hb' : (i.bytes : Int) * (n : Int) ≤ 281474976710656 := by
    have h : ((i.bytes * n : Nat) : Int) ≤ 281474976710656 := by omega
    rwa [Int.natCast_mul] at h
  refine ⟨madeCells z.cells (n * i.size), size_madeCells _ _, fun w => ?_⟩
  have hr := run_make (P := P) w t e i z ht hi hz .i64 .i64 0 n (by omega) (by omega) hb' (by omega)
  simpa using hr

end Go.Proofs.YtglagbedgjkdbaaGreatDoor
namespace Go.Proofs.YtglagbedgjkdbaaGreatDoor
open Go.RowKit Go.BigFrame
set_option linter.unusedVariables false
set_option linter.unusedSimpArgs false

theorem nf_i64 : (Tryz.prog.info? 2).map (fun i => (i.zero, i.size, i.bytes)) = some (some (.int .i64 0), 1, 8) := by kernel_rfl
def numK (f : Int → Int) (l : List Ev) (k : Nat) : List Int := (l.take k).map fun e => (rdE f e).2
theorem numK_len (f : Int → Int) (l : List Ev) (k : Nat) (h : k ≤ l.length) : (numK f l k).length = k := by unfold numK; simp; omega
theorem numK_succ (f : Int → Int) (l : List Ev) (k : Nat) (h : k < l.length) : numK f l (k + 1) = numK f l k ++ [(rdE f (l.getD k zeroE)).2] := by
  unfold numK
  rw [List.take_add_one, List.getElem?_eq_getElem h]
  simp only [Option.toList, List.map_append, List.map_cons, List.map_nil, List.getD_eq_getElem?_getD, List.getElem?_eq_getElem h, Option.getD_some]
theorem numK_fits {l : List Ev} (h : evsOk l) (f : Int → Int) (k j : Nat) : fitsB ((numK f l k).getD j 0) = true := by
  unfold numK
  refine map_fits (l := l.take k) (fun i => ?_) f j
  rw [List.getD_eq_getElem?_getD, List.getElem?_take]
  have := h i
  rw [List.getD_eq_getElem?_getD] at this
  split
  · exact this
  · exact zeroE_ok
theorem gat_yes {f : Int → Int} {op : Int} {l : List Ev} (h : ∀ j, j < l.length → (rdE f (l.getD j zeroE)).1 = true) : gatV f op l = fdV op (numK f l l.length) := by
  unfold gatV numK
  rw [if_pos, List.take_length]
  rw [List.all_eq_true]
  intro e he
  obtain ⟨j, hj, rfl⟩ := List.getElem_of_mem he
  have := h j hj
  rwa [List.getD_eq_getElem?_getD, List.getElem?_eq_getElem hj] at this
theorem gat_no {f : Int → Int} {op : Int} {l : List Ev} {j : Nat} (hj : j < l.length) (h : (rdE f (l.getD j zeroE)).1 = false) : gatV f op l = noV2 := by
  unfold gatV
  rw [if_neg]
  intro ha
  rw [List.all_eq_true] at ha
  have := ha _ (List.getElem_mem hj)
  rw [List.getD_eq_getElem?_getD, List.getElem?_eq_getElem hj] at h
  simp at h
  rw [h] at this
  cases this
theorem one_newE {w : World} {g : Nat} (hg : g = w.heap.size) (x : Value) (t : TypeId) (j : Nat) (u : Value) (h : [x][j]? = some u) : (w.alloc (.cells #[x] t)).cell? ((⟨g, 0, none⟩ : Addr).add j) = some u := by
  subst hg
  rw [Go.WideShapes.add_plain, Nat.zero_add, World.cell?_alloc_new]
  simpa using h
structure FoldL (f : Int → Int) (l : List Ev) (w : World) (v i : Value) (wr : World) : Prop where
  ex : ∃ k : Nat, k ≤ l.length ∧ i = .int .i64 k ∧ (∀ j, j < k → (rdE f (l.getD j zeroE)).1 = true) ∧ wr.ownsRow (w.heap.size + 1) 2 1 v (numK f l k).length ((numK f l k).map (Value.int .i64)) ∧ Two wr w.heap.size (.bool false) (.int .i64 0) 51 ∧ Below w.heap.size w wr

set_option maxRecDepth 100000 in
set_option maxHeartbeats 4000000 in
theorem cfold_any (ac : Option Addr) (cc : Nat) (col : List Int) (a : Option Addr) (c : Nat) (l : List Ev) (op : Int) (w : World) (hf : Flat w ac (fl intC col)) (hl : col.length ≤ 140737488351232) (hA : Flat w a (fl evC l)) (hn : l.length * 88 ≤ 140737488351232) (hE : evsOk l) :
    Calls Tryz.prog 81 #[plcF ac col.length cc, .int .i64 op, .slice a l.length c] w fun r w' => r = .returned (VA (gatV (plcO col) op l)) ∧ Below w.heap.size w w' := by
  obtain ⟨i0, ti, tz0, tz1, tz2⟩ := nf_info nf_i64
  obtain ⟨M, hM, hmk⟩ := run_make_cap (P := Tryz.prog) 144 2 Tryz.underlying144 nf_i64 l.length (by omega) (by omega)
  have B0 := galloc (galloc (Below.refl w.heap.size w) (.cells #[.bool false, .int .i64 0] 51)) (.cells M 2)
  have R0 := (Two.new w (.bool false) (.int .i64 0) 51).alloc (.cells M 2)
  have O0 : ((w.alloc (.cells #[.bool false, .int .i64 0] 51)).alloc (.cells M 2)).ownsRow (w.heap.size + 1) 2 1 (.slice (some ⟨w.heap.size + 1, 0, none⟩) 0 l.length) 0 [] := by
    have := World.ownsRow_made (base := w.heap.size + 1) (e := 2) (size := 1) (w.alloc (.cells #[.bool false, .int .i64 0] 51)) M l.length (by simp) (by unfold maxLen; omega) hM
    simpa using this
  generalize hx : gatV (plcO col) op l = x
  obtain ⟨zk, zn⟩ := x
  have HX := show Hid (_ = _) from hx
  clear hx
  go_enter Tryz.func81, Tryz.ntmps81
  go_wp2
  generalize (w.alloc (.cells #[.bool false, .int .i64 0] 51)).alloc (.cells M 2) = Z at *
  go_loopw [7, 16] (fun v i wr => FoldL (plcO col) l w v i wr) (fun _ i _ => l.length - (intOf i).toNat)
  case atStart => exact ⟨⟨0, Nat.zero_le _, rfl, fun j hj => absurd hj (Nat.not_lt_zero _), O0, R0, B0⟩⟩
  case round =>
    clear O0 R0 B0 hmk
    obtain ⟨⟨k, hk, rfl, hall, hown, R, G⟩⟩ := hrel
    have zG := G.size
    have zR := R.lt
    by_cases hlt : k < l.length
    · have hki : (k : Int) < (l.length : Int) := by omega
      obtain ⟨g, o, rfl, hg, hcc⟩ := (hA.keep G).form (by rw [fl_len evC_sz]; omega)
      have A := ev_at hcc k hlt
      obtain ⟨ev, hev⟩ : ∃ ev, l.getD k zeroE = ev := ⟨_, rfl⟩
      rw [hev] at A
      have HEV := show Hid (_ = _) from hev
      have hr := read_any' ac cc col ev _ ((hf.keep G).keep (galloc (Below.refl wr.heap.size wr) (.cells (evC ev) 76))) hl
      obtain ⟨⟨xk, xn⟩, hxx⟩ : ∃ x, rdE (plcO col) ev = x := ⟨_, rfl⟩
      rw [hxx] at hr
      have HXX := show Hid (_ = _) from hxx
      have hnl := numK_len (plcO col) l k hk
      have ge := galloc (Below.refl wr.heap.size wr) (.cells (evC ev) 76)
      unfold evC at hr ge
      obtain ⟨c0, c1, c2, c3, c4, c5, c6, c7, c8, c9, c10⟩ := A
      clear hcc hxx hev
      cases xk
      · go_wp2_with (first
          | (go_at_call 115; (with_reducible refine hr.mono ?_); rintro _ u1 ⟨rfl, g1⟩; have G1 := gtrans ge g1; have G2 := gtrans G G1; obtain ⟨r0, r1⟩ := show _ ∧ _ from ⟨((R.keep G1).alloc (.cells #[.bool false, .int .i64 xn] 51)).at0, ((R.keep G1).alloc (.cells #[.bool false, .int .i64 xn] 51)).at1⟩; have rf := ((R.keep G1).alloc (.cells #[.bool false, .int .i64 xn] 51)).free))
        obtain ⟨rfl, rfl⟩ : zk = false ∧ zn = 0 := Prod.mk.inj (HX.out.symm.trans (gat_no hlt (by rw [HEV.out, HXX.out])))
        go_wp2
        refine bodyPost_ret (v := .agg #[.bool false, .int .i64 0]) (by simp [results, Tryz.results81, go_sem, r0, r1]) rfl ⟨rfl, ?_⟩
        first | exact galloc G2 _ | exact gset (gset (galloc G2 _) (by simp) _) (by simp) _
      · go_wp2_with (first
          | (go_at_call 115; (with_reducible refine hr.mono ?_); rintro _ u1 ⟨rfl, g1⟩; have G1 := gtrans ge g1; have G2 := gtrans G G1; have Ou := (own_keep hown G1).alloc (.cells #[.bool true, .int .i64 xn] 51))
          | (at_builtin; refine wpList_append_own _ rfl (.tmp 27) (.tmp 30) 144 rfl (w.heap.size + 1) 2 i0 (.int .i64 0) 1 8 Tryz.underlying144 ti tz0 tz1 tz2 rfl (by decide) _ _ _ rfl (Ou.alloc _) ⟨u1.heap.size + 1, 0, none⟩ 1 1 [.int .i64 xn] rfl rfl (one_newE (by simp) _ _) (fun u hu => by simp at hu; subst hu; rfl) ?c3 ?c4 ?c5 ?_))
        case c3 => unfold maxLen; omega
        case c4 => omega
        case c5 => have := G2.size; simp; omega
        intro v' w1 hown' hgrow _
        have e := numK_succ (plcO col) l k hlt
        rw [HEV.out, HXX.out] at e
        have hown2 : w1.ownsRow (w.heap.size + 1) 2 1 v' (numK (plcO col) l (k + 1)).length ((numK (plcO col) l (k + 1)).map (Value.int .i64)) := by rw [e]; simpa [hnl] using hown'
        have q := hgrow.block w.heap.size (by have := G2.size; simp; omega) (fun e => by have := (Ou.lt _ e.symm).1; omega)
        have R2 : Two w1 w.heap.size (.bool false) (.int .i64 0) 51 := q.trans (((R.keep G1).alloc (.cells #[.bool true, .int .i64 xn] 51)).alloc _)
        have Gw : Below w.heap.size w w1 := (galloc (galloc G2 (.cells #[.bool true, .int .i64 xn] 51)) _).grown hgrow (by have := G2.size; simp; omega) (fun r e => by have := (Ou.lt _ e).1; omega)
        have hall2 : ∀ j, j < k + 1 → (rdE (plcO col) (l.getD j zeroE)).1 = true := fun j hj => by
          by_cases hjk : j < k
          · exact hall j hjk
          · obtain rfl : j = k := by omega
            rw [HEV.out, HXX.out]
        have fin : FoldL (plcO col) l w v' (.int .i64 ((k : Int) + 1)) w1 := ⟨⟨k + 1, by omega, by go_num, hall2, hown2, R2, Gw⟩⟩
        clear hown' hgrow hown2 R2 Gw hall2 q e Ou hown R hall hr c0 c1 c2 c3 c4 c5 c6 c7 c8 c9 c10
        go_wp2
        go_roundw
        case rel => exact fin
        case measure => simp [intOf]; omega
    · obtain rfl : k = l.length := by omega
      obtain ⟨hzk, hzn⟩ := Prod.mk.inj ((gat_yes hall).symm.trans HX.out)
      have hnl := numK_len (plcO col) l l.length (Nat.le_refl _)
      obtain ⟨ao, cap, rfl, hrow, _, _⟩ := isRow_own hown (numK_fits hE _ _)
      have hfo := fold_any op ao _ cap _ wr hrow
      rw [hzk, hzn] at hfo
      generalize (numK (plcO col) l l.length).length = nn at hfo
      clear hall HX hzk hzn hown hnl
      go_wp2_with (first
        | (go_at_call 116; (with_reducible refine hfo.mono ?_); rintro _ u1 ⟨rfl, g1⟩; have G2 := gtrans G g1; have R1 := R.keep g1; obtain ⟨r0, r1⟩ := show _ ∧ _ from ⟨R1.at0, R1.at1⟩; have rf := R1.free))
      refine bodyPost_ret (v := .agg #[.bool zk, .int .i64 zn]) (by simp [results, Tryz.results81, go_sem, r0, r1]) rfl ⟨rfl, ?_⟩
      exact gset (gset G2 (by simp) _) (by simp) _

end Go.Proofs.YtglagbedgjkdbaaGreatDoor
namespace Go.Proofs.YtglagbedgjkdbaaGreatDoor
open Go.RowKit Go.BigFrame
set_option linter.unusedVariables false
set_option linter.unusedSimpArgs false

set_option maxHeartbeats 1000000 in
theorem refList_any (E : Envr) (al : Option Addr) (cl : Nat) (item : Int) (w : World) (N : Nst w al evC E.lists) :
    ∃ a c, Lsl w E item a c ∧ ∀ u, Below w.heap.size w u → Calls Tryz.prog 72 #[envA al cl E, .int .i64 item] u fun e w' => e = .returned (.slice a (lstO E item).length c) ∧ Below u.heap.size u w' := by
  by_cases h0 : item < 0 ∨ (E.lists.length : Int) ≤ item
  · have hl : lstO E item = [] := if_pos h0
    rw [hl]
    refine ⟨none, 0, ⟨by rw [hl]; exact ⟨Nat.le_refl _, fun _ => ⟨rfl, rfl⟩⟩, by rw [hl]; exact Flat.nil _ _⟩, fun u G => ?_⟩
    by_cases h1 : item < 0
    · go_enter Tryz.func72, Tryz.ntmps72
      go_wp2
      go_ret
      exact ⟨rfl, galloc (Below.refl _ _) _⟩
    · have h2 : (E.lists.length : Int) ≤ item := by omega
      go_enter Tryz.func72, Tryz.ntmps72
      go_wp2
      go_ret
      exact ⟨rfl, galloc (Below.refl _ _) _⟩
  · obtain ⟨k, rfl⟩ : ∃ k : Nat, item = k := ⟨item.toNat, by omega⟩
    have hk : k < E.lists.length := by omega
    have hl : lstO E (k : Int) = E.lists.getD k [] := if_neg h0
    obtain ⟨g, o, a, c, rfl, a0, hf, hs⟩ := N k hk
    rw [hl]
    refine ⟨a, c, ⟨by rw [hl]; exact hs, by rw [hl]; exact hf⟩, fun u G => ?_⟩
    have a1 := (G.cell (p := ⟨_, _, none⟩) (lt_of_cell a0)).trans a0
    have hg : g < u.heap.size := lt_of_cell a1
    have h1 : ¬ (k : Int) < 0 := by omega
    have h2 : (k : Int) < (E.lists.length : Int) := by omega
    clear h0 a0 G N
    go_enter Tryz.func72, Tryz.ntmps72
    go_wp2
    go_ret
    exact ⟨rfl, galloc (Below.refl _ _) _⟩

def ndsR (c : Int) : Int := if c < 1 ∨ 26 < c then -1 else (ndsI c : Int)
end Go.Proofs.YtglagbedgjkdbaaGreatDoor
