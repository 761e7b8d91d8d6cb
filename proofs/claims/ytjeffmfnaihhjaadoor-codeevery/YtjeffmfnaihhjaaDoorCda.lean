/- The machine of package code, as it is said: what is read of an event, of an item's list; one step; the run. -/
import Derived.Test.YtjeffmfnaihhjaaDoorApply2
import Derived.Test.YtjeffmfnaihhjaaDoorFold
import Derived.Test.YtjeffmfnaihhjaaDoorEv0
import Derived.Test.YtjeffmfnaihhjaaDoorRw0
namespace Go.Proofs.YtjeffmfnaihhjaaDoor
open Go.RowKit Go.BigFrame
set_option linter.unusedVariables false
set_option linter.unusedSimpArgs false

structure Ins where
  code : Int
  item : Int
  col : Int
  n : Int
  to : Int
def insC (i : Ins) : Array Value := #[.int .i64 i.code, .int .i64 i.item, .int .i64 i.col, .int .i64 i.n, .int .i64 i.to]
def noIn : Ins := ⟨0, 0, 0, 0, 0⟩
structure Ins.ok (i : Ins) : Prop where
  n : fitsB i.n = true
  to : fitsB i.to = true
def valC (x : V2) : Array Value := #[.bool x.1, .int .i64 x.2]
def intC (z : Int) : Array Value := #[.int .i64 z]
abbrev noV2 : V2 := (false, 0)
structure Envr where
  lists : List (List Ev)
  each : Int
  at_ : Int

def plcO (col : List Int) (typ : Int) : Int := if typ < 0 ∨ (col.length : Int) ≤ typ then -1 else col.getD typ.toNat 0
def rdP (pl : Int) (e : Ev) : V2 := if pl = -2 then (true, e.ts) else if 0 ≤ pl ∧ pl < 8 then (true, e.at pl.toNat) else noV2
def sayV (f : Int → Int) (l : List Ev) (a : Int) : V2 := if a < 0 ∨ (l.length : Int) ≤ a then noV2 else rdP (f (l.getD a.toNat zeroE).typ) (l.getD a.toNat zeroE)
def fdV (op : Int) (zs : List Int) : V2 := (foldK op zs, foldN op zs)
def rdE (f : Int → Int) (e : Ev) : V2 := rdP (f e.typ) e
def gatV (f : Int → Int) (op : Int) (l : List Ev) : V2 := if l.all (fun e => (rdE f e).1) = true then fdV op (l.map fun e => (rdE f e).2) else noV2
def lstO (E : Envr) (item : Int) : List Ev := if item < 0 ∨ (E.lists.length : Int) ≤ item then [] else E.lists.getD item.toNat []
def menV (f : Int → Int) (op : Int) (E : Envr) (item : Int) : V2 :=
  if op = 4 then sayV f (lstO E item) (if item = E.each then E.at_ else 0)
  else if op = 11 then (if item = E.each then sayV f (lstO E item) (IntKind.i64.wrap (E.at_ - 1)) else noV2)
  else gatV f op (lstO E item)
def opI (c : Int) : Int := if c = 2 then 4 else if c = 3 then 11 else if c ≤ 9 then c + 1 else c + 2
def ndsI (c : Int) : Nat := if c < 10 then 0 else if c = 10 ∨ c = 11 ∨ 25 ≤ c then 1 else 2
def negW (x : V2) : V2 := (opK true x.1 (0 - x.2), opN true x.1 (0 - x.2))
def notW (x : V2) : V2 := (vK (2 - rd x.1 x.2), vN (2 - rd x.1 x.2))
def jmpB (c : Int) (x : V2) : Bool := x.1 && ((rd x.1 x.2 == 2) == (c == 26))
def topV (st : List V2) : V2 := st.getD (st.length - 1) noV2
def sndV (st : List V2) : V2 := st.getD (st.length - 2) noV2
/-- One instruction: the next place and the stack, or a refusal. -/
def stepP (code : List Ins) (cols : List (List Int)) (E : Envr) (p : Nat) (st : List V2) : Option (Nat × List V2) :=
  let i := code.getD p noIn
  if ¬ (0 < i.code ∧ i.code < 27 ∧ ndsI i.code ≤ st.length) then none
  else if i.code = 1 then some (p + 1, st ++ [(true, i.n)])
  else if i.code = 4 then some (p + 1, st ++ [(true, ((lstO E i.item).length : Int))])
  else if i.code < 10 then (if 0 ≤ i.col ∧ i.col < (cols.length : Int) then some (p + 1, st ++ [menV (plcO (cols.getD i.col.toNat [])) (opI i.code) E i.item]) else none)
  else if i.code = 10 then some (p + 1, st.set (st.length - 1) (negW (topV st)))
  else if i.code = 11 then some (p + 1, st.set (st.length - 1) (notW (topV st)))
  else if 25 ≤ i.code then (if (p : Int) < i.to ∧ i.to ≤ (code.length : Int) then (if jmpB i.code (topV st) = true then some (i.to.toNat, st) else some (p + 1, st)) else none)
  else some (p + 1, (st.set (st.length - 2) (applyV (i.code + 2) (sndV st) (topV st))).take (st.length - 1))
def endV (st : List V2) : V2 × Int := if st.length = 1 then (st.getD 0 noV2, 0) else (noV2, 70)
def runW (code : List Ins) (cols : List (List Int)) (E : Envr) (p : Nat) (st : List V2) : V2 × Int :=
  if h : p < code.length then
    match stepP code cols E p st with
    | none => (noV2, 70)
    | some (q, st') => if h2 : p < q then runW code cols E q st' else (noV2, 70)
  else endV st
termination_by code.length - p
theorem runW_end {code : List Ins} {cols : List (List Int)} {E : Envr} {p : Nat} {st : List V2} (h : ¬ p < code.length) : runW code cols E p st = endV st := by
  rw [runW, dif_neg h]
theorem runW_bad {code : List Ins} {cols : List (List Int)} {E : Envr} {p : Nat} {st : List V2} (h : p < code.length) (hs : stepP code cols E p st = none) : runW code cols E p st = (noV2, 70) := by
  rw [runW, dif_pos h, hs]
theorem runW_go {code : List Ins} {cols : List (List Int)} {E : Envr} {p q : Nat} {st st' : List V2} (h : p < code.length) (hs : stepP code cols E p st = some (q, st')) (hq : p < q) : runW code cols E p st = runW code cols E q st' := by
  rw [runW, dif_pos h, hs]
  exact dif_pos hq
/-- All values of a stack are numbers of their type. -/
def fitS (st : List V2) : Prop := ∀ k, fitsB (st.getD k noV2).2 = true
theorem fitS_nil : fitS [] := fun k => by simp; decide
theorem fitS_snoc {st : List V2} (h : fitS st) {x : V2} (hx : fitsB x.2 = true) : fitS (st ++ [x]) := fun k => by
  rcases Nat.lt_or_ge k st.length with e | e
  · have := h k
    rwa [List.getD_eq_getElem?_getD, List.getElem?_append_left e, ← List.getD_eq_getElem?_getD]
  · rw [List.getD_eq_getElem?_getD, List.getElem?_append_right e]
    rcases Nat.eq_zero_or_pos (k - st.length) with e2 | e2
    · rw [e2]; exact hx
    · rw [List.getElem?_eq_none (by simp; omega)]; decide
theorem fitS_set {st : List V2} (h : fitS st) (j : Nat) {x : V2} (hx : fitsB x.2 = true) : fitS (st.set j x) := fun k => by
  rw [List.getD_eq_getElem?_getD, List.getElem?_set]
  have hk := h k
  rw [List.getD_eq_getElem?_getD] at hk
  split
  · split
    · exact hx
    · decide
  · exact hk
theorem fitS_take {st : List V2} (h : fitS st) (n : Nat) : fitS (st.take n) := fun k => by
  rw [List.getD_eq_getElem?_getD, List.getElem?_take]
  have hk := h k
  rw [List.getD_eq_getElem?_getD] at hk
  split
  · exact hk
  · decide
theorem ev_fits {e : Ev} (h : e.ok) (j : Nat) : fitsB (e.at j) = true := by
  by_cases hj : j < 8
  · exact (fits_iff _).2 ⟨h.at0 j hj, h.at1 j hj⟩
  · have : e.at j = 0 := by unfold Ev.at; rw [List.getD_eq_getElem?_getD, List.getElem?_eq_none (by simp; omega)]; rfl
    rw [this]; decide
theorem rdP_fits {e : Ev} (h : e.ok) (pl : Int) : fitsB (rdP pl e).2 = true := by
  unfold rdP
  split
  · exact (fits_iff _).2 ⟨h.t0, h.t1⟩
  split
  · exact ev_fits h _
  · decide
def evsOk (l : List Ev) : Prop := ∀ k, (l.getD k zeroE).ok
theorem sayV_fits {l : List Ev} (h : evsOk l) (f : Int → Int) (a : Int) : fitsB (sayV f l a).2 = true := by
  unfold sayV
  split
  · decide
  · exact rdP_fits (h _) _
theorem fdV_fits (op : Int) (zs : List Int) (h : ∀ j, fitsB (zs.getD j 0) = true) (hl : zs.length ≤ 9223372036854775807) : fitsB (fdV op zs).2 = true := by
  show fitsB (foldN op zs) = true
  unfold foldN
  repeat' split
  all_goals first | exact fitN_fits _ | exact extU_fits _ _ h _ | exact h _ | (rw [fits_iff]; omega)
theorem map_fits {l : List Ev} (h : evsOk l) (f : Int → Int) (j : Nat) : fitsB ((l.map fun e => (rdE f e).2).getD j 0) = true := by
  rw [List.getD_eq_getElem?_getD, List.getElem?_map]
  have := h j
  rw [List.getD_eq_getElem?_getD] at this
  cases e : l[j]? with
  | none => exact (by decide : fitsB 0 = true)
  | some x => rw [e] at this; exact rdP_fits this _
theorem gatV_fits {l : List Ev} (h : evsOk l) (f : Int → Int) (op : Int) (hl : l.length ≤ 9223372036854775807) : fitsB (gatV f op l).2 = true := by
  unfold gatV
  split
  · exact fdV_fits _ _ (map_fits h f) (by simpa using hl)
  · decide
/-- What may stand in an environment. -/
structure Envr.ok (E : Envr) : Prop where
  n : E.lists.length * 24 ≤ 140737488351232
  l : ∀ k, (E.lists.getD k []).length * 88 ≤ 140737488351232
  e : ∀ k, evsOk (E.lists.getD k [])
  f0 : fitsB E.each = true
  f1 : fitsB E.at_ = true
  b : ∀ k, (E.lists.getD k []).length ≤ 2147483647
theorem lstO_ok {E : Envr} (h : E.ok) (i : Int) : evsOk (lstO E i) ∧ (lstO E i).length * 88 ≤ 140737488351232 ∧ (lstO E i).length ≤ 2147483647 := by
  unfold lstO
  split
  · exact ⟨fun k => by simp; exact zeroE_ok, by simp, by simp⟩
  · exact ⟨h.e _, h.l _, h.b _⟩
theorem menV_fits {E : Envr} (h : E.ok) (f : Int → Int) (op i : Int) : fitsB (menV f op E i).2 = true := by
  obtain ⟨h1, h2, _⟩ := lstO_ok h i
  unfold menV
  split
  · exact sayV_fits h1 _ _
  split
  · split
    · exact sayV_fits h1 _ _
    · decide
  · exact gatV_fits h1 _ _ (by omega)
theorem stepP_fits {code : List Ins} {cols : List (List Int)} {E : Envr} (hE : E.ok) (hc : ∀ k, (code.getD k noIn).ok) {p q : Nat} {st st' : List V2} (hs : fitS st) (h : stepP code cols E p st = some (q, st')) : fitS st' := by
  unfold stepP at h
  dsimp only at h
  repeat' split at h
  all_goals first
    | (cases h; done)
    | (simp only [Option.some.injEq, Prod.mk.injEq] at h; obtain ⟨_, rfl⟩ := h)
  · exact fitS_snoc hs (hc _).n
  · exact fitS_snoc hs ((fits_iff _).2 (by have := (lstO_ok hE (code.getD p noIn).item).2.1; omega))
  · exact fitS_snoc hs (menV_fits hE _ _ _)
  · exact fitS_set hs _ (opN_fits _ _ _)
  · exact fitS_set hs _ (vN_fits _)
  · exact hs
  · exact hs
  · exact fitS_take (fitS_set hs _ (applyV_fits _ _ _)) _
theorem stepP_len {code : List Ins} {cols : List (List Int)} {E : Envr} {p q : Nat} {st st' : List V2} (h : stepP code cols E p st = some (q, st')) : p < q ∧ st'.length ≤ st.length + 1 ∧ (q = p + 1 ∨ q ≤ code.length) := by
  unfold stepP at h
  dsimp only at h
  repeat' split at h
  all_goals first
    | (cases h; done)
    | (simp only [Option.some.injEq, Prod.mk.injEq] at h; obtain ⟨rfl, rfl⟩ := h)
  all_goals refine ⟨?_, ?_, ?_⟩
  all_goals first | omega | (simp only [List.length_append, List.length_set, List.length_take, List.length_cons, List.length_nil]; omega)

end Go.Proofs.YtjeffmfnaihhjaaDoor
