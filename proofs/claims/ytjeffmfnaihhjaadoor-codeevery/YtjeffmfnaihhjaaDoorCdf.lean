/- What code.Run comes to: the machine's run. -/
import Derived.Test.YtjeffmfnaihhjaaDoorCde
import Derived.Test.YtjeffmfnaihhjaaDoorOps
import Derived.WalkMore
import Derived.WalkSmall
namespace Go.Proofs.YtjeffmfnaihhjaaDoor
open Go.RowKit Go.BigFrame
set_option linter.unusedVariables false
set_option linter.unusedSimpArgs false

structure Prg where
  code : List Ins
  cols : List (List Int)
structure Prg.ok (p : Prg) : Prop where
  n : p.code.length * 40 ≤ 140737488351232
  c : p.cols.length * 24 ≤ 140737488351232
  k : ∀ j, (p.cols.getD j []).length * 8 ≤ 140737488351232
  i : ∀ j, (p.code.getD j noIn).ok
/-- A program in memory. -/
structure IsPr (w : World) (p : Prg) (ai : Option Addr) (ci : Nat) (ac : Option Addr) (cc : Nat) : Prop where
  f : Flat w ai (fl insC p.code)
  si : Sl ai p.code.length ci
  c : Nst w ac intC p.cols
  sc : Sl ac p.cols.length cc
theorem IsPr.keep {w u : World} {p : Prg} {ai : Option Addr} {ci : Nat} {ac : Option Addr} {cc : Nat} (h : IsPr w p ai ci ac cc) (G : Below w.heap.size w u) : IsPr u p ai ci ac cc := ⟨h.f.keep G, h.si, h.c.keep G, h.sc⟩
abbrev prgA (p : Prg) (ai : Option Addr) (ci : Nat) (ac : Option Addr) (cc : Nat) : Value := .agg #[.slice ai p.code.length ci, .slice ac p.cols.length cc]
/-- An environment in memory. -/
structure IsEnv (w : World) (E : Envr) (al : Option Addr) (cl : Nat) : Prop where
  n : Nst w al evC E.lists
  s : Sl al E.lists.length cl
theorem IsEnv.keep {w u : World} {E : Envr} {al : Option Addr} {cl : Nat} (h : IsEnv w E al cl) (G : Below w.heap.size w u) : IsEnv u E al cl := ⟨h.n.keep G, h.s⟩
/-- The tables that num and code read. -/
structure TbAt (w : World) : Prop where
  t : Tabs w
  n : TabN w
  o : OpAt w
theorem TbAt.keep {w u : World} (h : TbAt w) (G : Below w.heap.size w u) : TbAt u := ⟨h.t.keep G, h.n.keep G, h.o.keep G⟩
theorem nf_val : (Tryd.prog.info? 33).map (fun i => (i.zero, i.size, i.bytes)) = some (some (.agg #[.bool false, .int .i64 0]), 2, 16) := by kernel_rfl
def runV (p : Prg) (E : Envr) : V2 × Int := runW p.code p.cols E 0 []

/-- The machine in memory: its stack, the boxes of program and environment, the result. -/
structure Mach (p : Prg) (E : Envr) (w : World) (ai : Option Addr) (ci : Nat) (ac : Option Addr) (cc : Nat) (al : Option Addr) (cl : Nat) (v : Value) (st : List V2) (wr : World) : Prop where
  own : wr.ownsRow (w.heap.size + 3) 33 2 v st.length (fl valC st)
  pb : Bk wr w.heap.size #[.slice ai p.code.length ci, .slice ac p.cols.length cc] 25
  eb : Bk wr (w.heap.size + 1) #[.slice al E.lists.length cl, .int .i64 E.each, .int .i64 E.at_] 28
  rb : Bk wr (w.heap.size + 2) #[.bool false, .int .i64 0] 33
  g : Below w.heap.size w wr
section
variable {p : Prg} {E : Envr} {w : World} {ai : Option Addr} {ci : Nat} {ac : Option Addr} {cc : Nat} {al : Option Addr} {cl : Nat} {v : Value} {st : List V2} {wr : World}
theorem Mach.keep (h : Mach p E w ai ci ac cc al cl v st wr) {u : World} (G : Below wr.heap.size wr u) : Mach p E w ai ci ac cc al cl v st u := ⟨own_keep h.own G, h.pb.keep G, h.eb.keep G, h.rb.keep G, gtrans h.g G⟩
theorem Mach.grown (h : Mach p E w ai ci ac cc al cl v st wr) {u : World} {v' : Value} {st' : List V2} (O : u.ownsRow (w.heap.size + 3) 33 2 v' st'.length (fl valC st')) (hg : wr.grownBy u v.ownBlock) : Mach p E w ai ci ac cc al cl v' st' u := by
  have z := h.rb.lt
  have q := fun (b : Nat) (hb : b < w.heap.size + 3) => hg.block b (by omega) (fun e => by have := (h.own.lt _ e.symm).1; omega)
  exact ⟨O, (q _ (by omega)).trans h.pb, (q _ (by omega)).trans h.eb, (q _ (by omega)).trans h.rb, h.g.grown hg (by have := h.g.size; omega) (fun r e => by have := (h.own.lt _ e).1; omega)⟩
theorem fl_set2 (st : List V2) (j : Nat) (hj : j < st.length) (x : V2) : fl valC (st.set j x) = ((fl valC st).set (j * 2) (.bool x.1)).set (j * 2 + 1) (.int .i64 x.2) := by
  have e1 := fl_set valC_sz noV2 st j 0 (.bool x.1) (x.1, (st.getD j noV2).2) hj (by omega) rfl
  rw [Nat.add_zero] at e1
  rw [e1]
  have e2 := fl_set valC_sz noV2 (st.set j (x.1, (st.getD j noV2).2)) j 1 (.int .i64 x.2) x (by simpa using hj) (by omega) (by
    rw [List.getD_eq_getElem?_getD, List.getElem?_set_self hj]; rfl)
  rw [e2, List.set_set]
theorem Mach.set {g n cap : Nat} (h : Mach p E w ai ci ac cc al cl (.slice (some ⟨g, 0, none⟩) n cap) st wr) (hn : st.length = n) (j : Nat) (hj : j < n) (x : V2) : Mach p E w ai ci ac cc al cl (.slice (some ⟨g, 0, none⟩) n cap) (st.set j x) ((wr.setCell ⟨g, j * 2, none⟩ (.bool x.1)).setCell ⟨g, j * 2 + 1, none⟩ (.int .i64 x.2)) := by
  subst hn
  obtain ⟨o1, g1⟩ := World.ownsRow.stored h.own (j * 2) (.bool x.1)
  obtain ⟨o2, g2⟩ := World.ownsRow.stored o1 (j * 2 + 1) (.int .i64 x.2)
  refine h.grown (by rw [fl_set2 st j hj x, List.length_set]; exact o2) ⟨g2.os.trans g1.os, g2.tape.trans g1.tape, g2.output.trans g1.output, Nat.le_trans g1.size g2.size, fun k hk hne => (g2.block k (Nat.lt_of_lt_of_le hk g1.size) hne).trans (g1.block k hk hne)⟩
theorem Mach.pop {g n cap : Nat} (h : Mach p E w ai ci ac cc al cl (.slice (some ⟨g, 0, none⟩) (n + 1) cap) st wr) (hn : st.length = n + 1) : Mach p E w ai ci ac cc al cl (.slice (some ⟨g, 0, none⟩) n cap) (st.take n) wr := by
  have hl : (st.take n).length = n := by simp; omega
  have O := h.own
  rw [hn, ← List.take_append_drop n st, fl_app] at O
  refine ⟨?_, h.pb, h.eb, h.rb, h.g⟩
  rw [hl]
  exact ownsRow_pop (by rw [fl_len valC_sz, hl]) O
/-- Where the stack lies. -/
theorem Mach.form (h : Mach p E w ai ci ac cc al cl v st wr) (h0 : 0 < st.length) : ∃ g cap, v = .slice (some ⟨g, 0, none⟩) st.length cap ∧ g < wr.heap.size ∧ w.heap.size + 3 ≤ g ∧ st.length ≤ cap ∧ (∀ o, wr.frozen? ⟨g, o, none⟩ = false) ∧ ∀ j, j < st.length → wr.cell? ⟨g, j * 2, none⟩ = some (.bool (st.getD j noV2).1) ∧ wr.cell? ⟨g, j * 2 + 1, none⟩ = some (.int .i64 (st.getD j noV2).2) := by
  obtain ⟨ao, cap, rfl, hc, _, hh⟩ := own_form h.own
  rcases hh with hh | ⟨g, rfl, hg, hb⟩
  · omega
  · refine ⟨g, cap, rfl, hg, hb, hc, fun o => World.ownsRow.frozenAt h.own o, fun j hj => ⟨?_, ?_⟩⟩
    · rw [World.ownsRow.cellAt h.own _ (by omega)]
      have := fl_at valC_sz noV2 st j 0 hj (by omega)
      rw [Nat.add_zero] at this
      rw [this]; rfl
    · rw [World.ownsRow.cellAt h.own _ (by omega), fl_at valC_sz noV2 st j 1 hj (by omega)]
      rfl
end
theorem two_newE {w : World} {g : Nat} (hg : g = w.heap.size) (x y : Value) (t : TypeId) (j : Nat) (u : Value) (h : [x, y][j]? = some u) : (w.alloc (.cells #[x, y] t)).cell? ((⟨g, 0, none⟩ : Addr).add j) = some u := by
  subst hg
  rw [Go.WideShapes.add_plain, Nat.zero_add, World.cell?_alloc_new]
  simpa using h
/-- The cells of an instruction of a row. -/
structure InAt (w : World) (g o : Nat) (i : Ins) : Prop where
  c0 : w.cell? ⟨g, o, none⟩ = some (.int .i64 i.code)
  c1 : w.cell? ⟨g, o + 1, none⟩ = some (.int .i64 i.item)
  c2 : w.cell? ⟨g, o + 2, none⟩ = some (.int .i64 i.col)
  c3 : w.cell? ⟨g, o + 3, none⟩ = some (.int .i64 i.n)
  c4 : w.cell? ⟨g, o + 4, none⟩ = some (.int .i64 i.to)
theorem in_at {w : World} {g o : Nat} {l : List Ins} (h : ∀ j u, (fl insC l)[j]? = some u → w.cell? ⟨g, o + j, none⟩ = some u) (k : Nat) (hk : k < l.length) : InAt w g (o + k * 5) (l.getD k noIn) := by
  have key : ∀ j u, j < 5 → (insC (l.getD k noIn)).toList[j]? = some u → w.cell? ⟨g, o + k * 5 + j, none⟩ = some u := fun j u hj hu => by
    rw [Nat.add_assoc]
    exact h _ _ ((fl_at insC_sz noIn l k j hk hj).trans hu)
  exact ⟨key 0 _ (by omega) rfl, key 1 _ (by omega) rfl, key 2 _ (by omega) rfl, key 3 _ (by omega) rfl, key 4 _ (by omega) rfl⟩
theorem stepP_of {code : List Ins} {cols : List (List Int)} {E : Envr} {p : Nat} {st : List V2} {c it co n to : Int} (h : code.getD p noIn = ⟨c, it, co, n, to⟩) : stepP code cols E p st =
  if ¬ (0 < c ∧ c < 27 ∧ ndsI c ≤ st.length) then none
  else if c = 1 then some (p + 1, st ++ [(true, n)])
  else if c = 4 then some (p + 1, st ++ [(true, ((lstO E it).length : Int))])
  else if c < 10 then (if 0 ≤ co ∧ co < (cols.length : Int) then some (p + 1, st ++ [menV (plcO (cols.getD co.toNat [])) (opI c) E it]) else none)
  else if c = 10 then some (p + 1, st.set (st.length - 1) (negW (topV st)))
  else if c = 11 then some (p + 1, st.set (st.length - 1) (notW (topV st)))
  else if 25 ≤ c then (if (p : Int) < to ∧ to ≤ (code.length : Int) then (if jmpB c (topV st) = true then some (to.toNat, st) else some (p + 1, st)) else none)
  else some (p + 1, (st.set (st.length - 2) (applyV (c + 2) (sndV st) (topV st))).take (st.length - 1)) := by
  unfold stepP
  rw [h]
structure RunL (p : Prg) (E : Envr) (R : V2 × Int) (w : World) (ai : Option Addr) (ci : Nat) (ac : Option Addr) (cc : Nat) (al : Option Addr) (cl : Nat) (v i : Value) (wr : World) : Prop where
  ex : ∃ (k : Nat) (st : List V2), k ≤ p.code.length ∧ i = .int .i64 k ∧ st.length ≤ k ∧ fitS st ∧ runW p.code p.cols E k st = R ∧ Mach p E w ai ci ac cc al cl v st wr

end Go.Proofs.YtjeffmfnaihhjaaDoor
