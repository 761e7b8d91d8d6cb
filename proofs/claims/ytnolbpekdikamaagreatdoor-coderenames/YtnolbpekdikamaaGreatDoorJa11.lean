/- isRunnable. And what goes with it: 4 texts in one. -/
import Derived.Test.YtnolbpekdikamaaGreatDoorJa10
import Derived.WalkMore
import Derived.WalkSmall
import Derived.Deep.MidRow
import Derived.Deep.DeepAppendWide
import Derived.Deep.DeepAppendRoom
namespace Go.Proofs.YtnolbpekdikamaaGreatDoor
open Go.RowKit Go.BigFrame Go.Proofs.YtnolbpekdikamaaGreatDoor.Ev
set_option linter.unusedVariables false
set_option linter.unusedSimpArgs false

/-- What is asked of one node. -/
def runN (M : ByteArray → Option Int) (t : List Nd) (n : Nd) : Bool := kFit t n && (!kMent n.op || (M n.v).isSome)
def runB (M : ByteArray → Option Int) (t : List Nd) : Bool := treeB t && t.all (runN M t)
theorem tree_begs {ns : List Nd} (h : treeB ns = true) : ∃ bs, begsO ns [] = some bs ∧ 0 < ns.length := by
  unfold treeB at h
  cases hb : begsO ns [] with
  | none => rw [hb] at h; cases h
  | some bs => rw [hb] at h; exact ⟨bs, rfl, (of_decide_eq_true h).1⟩
theorem tree_bnd {ns : List Nd} (h : treeB ns = true) {i : Nat} (hi : i < ns.length) : (ns.getD i noNd).l < (i : Int) ∧ (ns.getD i noNd).r < (i : Int) ∧ 1 ≤ (ns.getD i noNd).op ∧ (ns.getD i noNd).op ≤ 26 := by
  obtain ⟨bs, hb, _⟩ := tree_begs h
  have k := kin_of hb i hi
  refine ⟨?_, ?_, k.op.1, k.op.2⟩
  · rcases k.how with ⟨_, _, e, _⟩ | ⟨_, e0, e, _⟩ | ⟨_, e0, e1, _, e, _⟩
    · omega
    · omega
    · have := (kin_of hb (i - 1) (by omega)).le
      omega
  · rcases k.how with ⟨_, _, _, e⟩ | ⟨_, e0, _, e, _⟩ | ⟨_, e0, e1, e, _⟩
    · omega
    · omega
    · omega
/-- All up to the k-th are well. -/
def runK (M : ByteArray → Option Int) (t : List Nd) (k : Nat) : Prop := ∀ i, i < k → runN M t (t.getD i noNd) = true
theorem run_all {M : ByteArray → Option Int} {t : List Nd} (h : treeB t = true) (hk : runK M t t.length) : runB M t = true := by
  unfold runB
  rw [h, Bool.true_and, List.all_eq_true]
  intro x hx
  obtain ⟨i, hi, rfl⟩ := List.getElem_of_mem hx
  have := hk i hi
  rwa [List.getD_eq_getElem?_getD, List.getElem?_eq_getElem hi] at this
theorem run_not {M : ByteArray → Option Int} {t : List Nd} {i : Nat} (hi : i < t.length) (h : runN M t (t.getD i noNd) = false) : runB M t = false := by
  unfold runB
  have : t.all (runN M t) = false := by
    rw [List.all_eq_false]
    refine ⟨t[i], List.getElem_mem hi, ?_⟩
    rw [List.getD_eq_getElem?_getD, List.getElem?_eq_getElem hi] at h
    exact ne_true_of_eq_false h
  rw [this, Bool.and_false]
set_option maxRecDepth 100000 in
set_option maxHeartbeats 4000000 in
theorem isRunnable_any (ns : List Nd) (ao : Option Addr) (cap b nb : Nat) (M : ByteArray → Option Int) (w : World) (K : KwAt w) (A : IsNds w ao ns) (MP : MpAt w b nb M) (hr : ns.length * 64 ≤ 140737488351232) (hf : ∀ k, (ns.getD k noNd).fit) :
    Calls Tryz.prog 23 #[.map (some b), .slice ao ns.length cap] w fun e w' => e = .returned (.bool (runB M ns)) ∧ Below w.heap.size w w' := by
  have c1 := shTree_any ns ao cap w K A hr hf
  cases ht : treeB ns with
  | false =>
    have hv : runB M ns = false := by unfold runB; rw [ht]; rfl
    rw [hv]
    rw [ht] at c1
    clear hv ht
    go_enter Tryz.func23, Tryz.ntmps23
    go_wp2_with (first | (go_at_call 36; (with_reducible refine c1.mono ?_); rintro e u ⟨rfl, g1⟩))
    go_ret
    exact ⟨rfl, g1⟩
  | true =>
    rw [ht] at c1
    have HT : Hid (treeB ns = true) := ht
    clear ht
    obtain ⟨v, hv⟩ : ∃ v, runB M ns = v := ⟨_, rfl⟩
    rw [hv]
    have HV : Hid (runB M ns = v) := hv
    clear hv
    go_enter Tryz.func23, Tryz.ntmps23
    go_upto_region 4 with (first | (go_at_call 36; (with_reducible refine c1.mono ?_); rintro e u ⟨rfl, g1⟩))
    have Au := A.keep g1
    have Mu := MP.keep g1
    clear c1
    obtain ⟨n, hn⟩ : ∃ n, ns.length = n := ⟨_, rfl⟩
    rw [hn] at hr ⊢
    go_loopw [6, 7, 8, 14] (fun _ _ _ x wr => ∃ k : Nat, k ≤ n ∧ x = .int .i64 (k : Int) ∧ runK M ns k ∧ Below u.heap.size u wr) (fun _ _ _ x _ => n - (intOf x).toNat)
    case atStart => exact ⟨0, Nat.zero_le _, rfl, fun i hi => absurd hi (Nat.not_lt_zero _), Below.refl _ _⟩
    case round =>
      obtain ⟨k, hk, rfl, hK, G⟩ := hrel
      by_cases hlt : k < n
      · obtain ⟨g, o, rfl, x0, x1, x2, x3, x4, x5⟩ := (Au.keep G) k (by omega)
        have hki : (k : Int) < (n : Int) := by omega
        have hb := tree_bnd HT.out (i := k) (by omega)
        have hv := (hf k).v
        have hstep : runN M ns (ns.getD k noNd) = true → runK M ns (k + 1) := fun h i hi => by
          by_cases e : i = k
          · rw [e]; exact h
          · exact hK i (by omega)
        have hno : runN M ns (ns.getD k noNd) = false → runB M ns = false := run_not (by omega)
        generalize ns.getD k noNd = y at *
        obtain ⟨yop, yn, yv, yx, yl, yr⟩ := y
        dsimp only at *
        have G1 := galloc (Below.refl wr.heap.size wr) (.cells #[.int .i64 yop, .int .i64 yn, .string yv, .string yx, .int .i64 yl, .int .i64 yr] 64)
        have N0 := Bk.new wr #[.int .i64 yop, .int .i64 yn, .string yv, .string yx, .int .i64 yl, .int .i64 yr] 64
        have c63 := kindsFit_any ns (by rw [hn]; exact hr) ⟨yop, yn, yv, yx, yl, yr⟩ (by dsimp only; omega) (by dsimp only; omega) (some ⟨g, o, none⟩) cap _ ((Au.keep G).keep G1)
        rw [hn] at c63
        dsimp only at c63
        have lk : ∀ u', Below (wr.alloc (.cells #[.int .i64 yop, .int .i64 yn, .string yv, .string yx, .int .i64 yl, .int .i64 yr] 64)).heap.size (wr.alloc (.cells #[.int .i64 yop, .int .i64 yn, .string yv, .string yx, .int .i64 yl, .int .i64 yr] 64)) u' → (Instr.lookup 78 (.map (some b)) (.string yv) true).run Tryz.prog u' = .ok (.tuple #[.int .i64 ((M yv).getD 0), .bool (M yv).isSome]) u' := fun u' B' => (((Mu.keep G).keep G1).keep B').look yv hv
        have GX := gtrans (gtrans g1 G) G1
        have GY := gtrans G G1
        have c64 := fun u' : World => kMention_any yop u'
        have HS := show Hid (_ → _) from hstep
        have HN := show Hid (_ → _) from hno
        obtain ⟨m, hm⟩ : ∃ m, (M yv).isSome = m := ⟨_, rfl⟩
        obtain ⟨mb, hmb⟩ : ∃ mb, kMent yop = mb := ⟨_, rfl⟩
        obtain ⟨kf, hkf⟩ : ∃ kf, kFit ns ⟨yop, yn, yv, yx, yl, yr⟩ = kf := ⟨_, rfl⟩
        have HF : Hid (runN M ns ⟨yop, yn, yv, yx, yl, yr⟩ = (kf && (!mb || m))) := by unfold Hid runN; rw [hkf, hmb, hm]
        rw [hm] at lk
        rw [hmb] at c64
        rw [hkf] at c63
        clear hm hmb hkf hstep hno hK hb
        have HL : Hid (k < n) := hlt
        clear hlt
        cases kf with
        | false =>
          have hv : v = false := HV.out.symm.trans (HN.out HF.out)
          subst hv
          clear lk
          go_wp2_with (first
            | (go_at_call 44; (with_reducible refine c63.mono ?_); rintro e u6 ⟨rfl, g6⟩))
          go_ret
          exact ⟨rfl, gtrans GX g6⟩
        | true =>
          cases mb <;> cases m
          all_goals
            go_wp2_with (first
              | (go_at_call 44; (with_reducible refine c63.mono ?_); rintro e u6 ⟨rfl, g6⟩; have lk6 := lk u6 g6; have b6 := (N0.keep g6).at6)
              | (go_at_call 45; (with_reducible refine (c64 _).mono ?_); rintro e u7 ⟨rfl, hu⟩; have hu' := hu.symm; subst hu'))
            first
              | (go_roundw
                 case rel => exact ⟨k + 1, HL.out, by go_num, HS.out HF.out, gtrans GY g6⟩
                 case measure => have hlt := HL.out; simp [intOf]; omega)
              | (go_ret
                 exact ⟨congrArg (fun b => Ending.returned (Value.bool b)) (HV.out.symm.trans (HN.out HF.out)).symm, gtrans GX g6⟩)
      · obtain rfl : k = n := by omega
        have q : ¬ (k : Int) < (k : Int) := by omega
        have hv : v = true := HV.out.symm.trans (run_all HT.out (by rw [hn]; exact hK))
        subst hv
        clear hlt
        go_wp2
        go_ret
        exact ⟨rfl, gtrans g1 G⟩

end Go.Proofs.YtnolbpekdikamaaGreatDoor
namespace Go.Proofs.YtnolbpekdikamaaGreatDoor
open Go.RowKit Go.BigFrame
set_option linter.unusedVariables false
set_option linter.unusedSimpArgs false

structure Prg where
  code : List Ins
  cols : List (List Int)
structure Prg.ok (p : Prg) : Prop where
  n : p.code.length * 40 ≤ 140737488351232
  c : p.cols.length * 24 ≤ 140737488351232
  k : ∀ j, (p.cols.getD j []).length * 8 ≤ 140737488351232
  i : ∀ j, (p.code.getD j noIn).ok
/-- A program in memory. -/
structure IsPr (w : World) (p : Prg) (ai : Option Addr) (ci : Nat) (ac : Option Addr) (cc : Nat) : Prop where
  f : Flat w ai (fl insC p.code)
  si : Sl ai p.code.length ci
  c : Nst w ac intC p.cols
  sc : Sl ac p.cols.length cc
theorem IsPr.keep {w u : World} {p : Prg} {ai : Option Addr} {ci : Nat} {ac : Option Addr} {cc : Nat} (h : IsPr w p ai ci ac cc) (G : Below w.heap.size w u) : IsPr u p ai ci ac cc := ⟨h.f.keep G, h.si, h.c.keep G, h.sc⟩
abbrev prgA (p : Prg) (ai : Option Addr) (ci : Nat) (ac : Option Addr) (cc : Nat) : Value := .agg #[.slice ai p.code.length ci, .slice ac p.cols.length cc]
/-- An environment in memory. -/
structure IsEnv (w : World) (E : Envr) (al : Option Addr) (cl : Nat) : Prop where
  n : Nst w al evC E.lists
  s : Sl al E.lists.length cl
theorem IsEnv.keep {w u : World} {E : Envr} {al : Option Addr} {cl : Nat} (h : IsEnv w E al cl) (G : Below w.heap.size w u) : IsEnv u E al cl := ⟨h.n.keep G, h.s⟩
/-- The tables that num and code read. -/
structure TbAt (w : World) : Prop where
  t : Tabs w
  n : TabN w
  o : OpAt w
theorem TbAt.keep {w u : World} (h : TbAt w) (G : Below w.heap.size w u) : TbAt u := ⟨h.t.keep G, h.n.keep G, h.o.keep G⟩
theorem nf_val : (Tryz.prog.info? 51).map (fun i => (i.zero, i.size, i.bytes)) = some (some (.agg #[.bool false, .int .i64 0]), 2, 16) := by kernel_rfl
def runV (p : Prg) (E : Envr) : V2 × Int := runW p.code p.cols E 0 []

/-- The machine in memory: its stack, the boxes of program and environment, the result. -/
structure Mach (p : Prg) (E : Envr) (w : World) (ai : Option Addr) (ci : Nat) (ac : Option Addr) (cc : Nat) (al : Option Addr) (cl : Nat) (v : Value) (st : List V2) (wr : World) : Prop where
  own : wr.ownsRow (w.heap.size + 3) 51 2 v st.length (fl valC st)
  pb : Bk wr w.heap.size #[.slice ai p.code.length ci, .slice ac p.cols.length cc] 48
  eb : Bk wr (w.heap.size + 1) #[.slice al E.lists.length cl, .int .i64 E.each, .int .i64 E.at_] 34
  rb : Bk wr (w.heap.size + 2) #[.bool false, .int .i64 0] 51
  g : Below w.heap.size w wr
section
variable {p : Prg} {E : Envr} {w : World} {ai : Option Addr} {ci : Nat} {ac : Option Addr} {cc : Nat} {al : Option Addr} {cl : Nat} {v : Value} {st : List V2} {wr : World}
theorem Mach.keep (h : Mach p E w ai ci ac cc al cl v st wr) {u : World} (G : Below wr.heap.size wr u) : Mach p E w ai ci ac cc al cl v st u := ⟨own_keep h.own G, h.pb.keep G, h.eb.keep G, h.rb.keep G, gtrans h.g G⟩
theorem Mach.grown (h : Mach p E w ai ci ac cc al cl v st wr) {u : World} {v' : Value} {st' : List V2} (O : u.ownsRow (w.heap.size + 3) 51 2 v' st'.length (fl valC st')) (hg : wr.grownBy u v.ownBlock) : Mach p E w ai ci ac cc al cl v' st' u := by
  have z := h.rb.lt
  have q := fun (b : Nat) (hb : b < w.heap.size + 3) => hg.block b (by omega) (fun e => by have := (h.own.lt _ e.symm).1; omega)
  exact ⟨O, (q _ (by omega)).trans h.pb, (q _ (by omega)).trans h.eb, (q _ (by omega)).trans h.rb, h.g.grown hg (by have := h.g.size; omega) (fun r e => by have := (h.own.lt _ e).1; omega)⟩
theorem fl_set2 (st : List V2) (j : Nat) (hj : j < st.length) (x : V2) : fl valC (st.set j x) = ((fl valC st).set (j * 2) (.bool x.1)).set (j * 2 + 1) (.int .i64 x.2) := by
  have e1 := fl_set valC_sz noV2 st j 0 (.bool x.1) (x.1, (st.getD j noV2).2) hj (by omega) rfl
  rw [Nat.add_zero] at e1
  rw [e1]
  have e2 := fl_set valC_sz noV2 (st.set j (x.1, (st.getD j noV2).2)) j 1 (.int .i64 x.2) x (by simpa using hj) (by omega) (by
    rw [List.getD_eq_getElem?_getD, List.getElem?_set_self hj]; rfl)
  rw [e2, List.set_set]
theorem Mach.set {g n cap : Nat} (h : Mach p E w ai ci ac cc al cl (.slice (some ⟨g, 0, none⟩) n cap) st wr) (hn : st.length = n) (j : Nat) (hj : j < n) (x : V2) : Mach p E w ai ci ac cc al cl (.slice (some ⟨g, 0, none⟩) n cap) (st.set j x) ((wr.setCell ⟨g, j * 2, none⟩ (.bool x.1)).setCell ⟨g, j * 2 + 1, none⟩ (.int .i64 x.2)) := by
  subst hn
  obtain ⟨o1, g1⟩ := World.ownsRow.stored h.own (j * 2) (.bool x.1)
  obtain ⟨o2, g2⟩ := World.ownsRow.stored o1 (j * 2 + 1) (.int .i64 x.2)
  refine h.grown (by rw [fl_set2 st j hj x, List.length_set]; exact o2) ⟨g2.os.trans g1.os, g2.tape.trans g1.tape, g2.output.trans g1.output, Nat.le_trans g1.size g2.size, fun k hk hne => (g2.block k (Nat.lt_of_lt_of_le hk g1.size) hne).trans (g1.block k hk hne)⟩
theorem Mach.pop {g n cap : Nat} (h : Mach p E w ai ci ac cc al cl (.slice (some ⟨g, 0, none⟩) (n + 1) cap) st wr) (hn : st.length = n + 1) : Mach p E w ai ci ac cc al cl (.slice (some ⟨g, 0, none⟩) n cap) (st.take n) wr := by
  have hl : (st.take n).length = n := by simp; omega
  have O := h.own
  rw [hn, ← List.take_append_drop n st, fl_app] at O
  refine ⟨?_, h.pb, h.eb, h.rb, h.g⟩
  rw [hl]
  exact ownsRow_pop (by rw [fl_len valC_sz, hl]) O
/-- Where the stack lies. -/
theorem Mach.form (h : Mach p E w ai ci ac cc al cl v st wr) (h0 : 0 < st.length) : ∃ g cap, v = .slice (some ⟨g, 0, none⟩) st.length cap ∧ g < wr.heap.size ∧ w.heap.size + 3 ≤ g ∧ st.length ≤ cap ∧ (∀ o, wr.frozen? ⟨g, o, none⟩ = false) ∧ ∀ j, j < st.length → wr.cell? ⟨g, j * 2, none⟩ = some (.bool (st.getD j noV2).1) ∧ wr.cell? ⟨g, j * 2 + 1, none⟩ = some (.int .i64 (st.getD j noV2).2) := by
  obtain ⟨ao, cap, rfl, hc, _, hh⟩ := own_form h.own
  rcases hh with hh | ⟨g, rfl, hg, hb⟩
  · omega
  · refine ⟨g, cap, rfl, hg, hb, hc, fun o => World.ownsRow.frozenAt h.own o, fun j hj => ⟨?_, ?_⟩⟩
    · rw [World.ownsRow.cellAt h.own _ (by omega)]
      have := fl_at valC_sz noV2 st j 0 hj (by omega)
      rw [Nat.add_zero] at this
      rw [this]; rfl
    · rw [World.ownsRow.cellAt h.own _ (by omega), fl_at valC_sz noV2 st j 1 hj (by omega)]
      rfl
theorem cdfEnd : True := trivial
end
theorem two_newE {w : World} {g : Nat} (hg : g = w.heap.size) (x y : Value) (t : TypeId) (j : Nat) (u : Value) (h : [x, y][j]? = some u) : (w.alloc (.cells #[x, y] t)).cell? ((⟨g, 0, none⟩ : Addr).add j) = some u := by
  subst hg
  rw [Go.WideShapes.add_plain, Nat.zero_add, World.cell?_alloc_new]
  simpa using h
/-- The cells of an instruction of a row. -/
structure InAt (w : World) (g o : Nat) (i : Ins) : Prop where
  c0 : w.cell? ⟨g, o, none⟩ = some (.int .i64 i.code)
  c1 : w.cell? ⟨g, o + 1, none⟩ = some (.int .i64 i.item)
  c2 : w.cell? ⟨g, o + 2, none⟩ = some (.int .i64 i.col)
  c3 : w.cell? ⟨g, o + 3, none⟩ = some (.int .i64 i.n)
  c4 : w.cell? ⟨g, o + 4, none⟩ = some (.int .i64 i.jt)
theorem in_at {w : World} {g o : Nat} {l : List Ins} (h : ∀ j u, (fl insC l)[j]? = some u → w.cell? ⟨g, o + j, none⟩ = some u) (k : Nat) (hk : k < l.length) : InAt w g (o + k * 5) (l.getD k noIn) := by
  have key : ∀ j u, j < 5 → (insC (l.getD k noIn)).toList[j]? = some u → w.cell? ⟨g, o + k * 5 + j, none⟩ = some u := fun j u hj hu => by
    rw [Nat.add_assoc]
    exact h _ _ ((fl_at insC_sz noIn l k j hk hj).trans hu)
  exact ⟨key 0 _ (by omega) rfl, key 1 _ (by omega) rfl, key 2 _ (by omega) rfl, key 3 _ (by omega) rfl, key 4 _ (by omega) rfl⟩
theorem stepP_of {code : List Ins} {cols : List (List Int)} {E : Envr} {p : Nat} {st : List V2} {c it co n jt : Int} (h : code.getD p noIn = ⟨c, it, co, n, jt⟩) : stepP code cols E p st =
  if ¬ (0 < c ∧ c < 27 ∧ ndsI c ≤ st.length) then none
  else if c = 1 then some (p + 1, st ++ [(true, n)])
  else if c = 4 then some (p + 1, st ++ [(true, ((lstO E it).length : Int))])
  else if c < 10 then (if 0 ≤ co ∧ co < (cols.length : Int) then some (p + 1, st ++ [menV (plcO (cols.getD co.toNat [])) (opI c) E it]) else none)
  else if c = 10 then some (p + 1, st.set (st.length - 1) (negW (topV st)))
  else if c = 11 then some (p + 1, st.set (st.length - 1) (notW (topV st)))
  else if 25 ≤ c then (if (p : Int) < jt ∧ jt ≤ (code.length : Int) then (if jmpB c (topV st) = true then some (jt.toNat, st) else some (p + 1, st)) else none)
  else some (p + 1, (st.set (st.length - 2) (applyV (c + 2) (sndV st) (topV st))).take (st.length - 1)) := by
  unfold stepP
  rw [h]
structure RunL (p : Prg) (E : Envr) (R : V2 × Int) (w : World) (ai : Option Addr) (ci : Nat) (ac : Option Addr) (cc : Nat) (al : Option Addr) (cl : Nat) (v i : Value) (wr : World) : Prop where
  ex : ∃ (k : Nat) (st : List V2), k ≤ p.code.length ∧ i = .int .i64 k ∧ st.length ≤ k ∧ fitS st ∧ runW p.code p.cols E k st = R ∧ Mach p E w ai ci ac cc al cl v st wr

end Go.Proofs.YtnolbpekdikamaaGreatDoor
namespace Go.Proofs.YtnolbpekdikamaaGreatDoor
open Go.RowKit Go.BigFrame
set_option linter.unusedVariables false
set_option linter.unusedSimpArgs false

def setL (xs : List Value) (o : Nat) : List Value → List Value
  | [] => xs
  | v :: vs => setL (xs.set o v) (o + 1) vs
theorem own_setCells {base g cap n : Nat} {e : TypeId} {size : Nat} : ∀ (vs : List Value) (o : Nat) (w : World) (xs : List Value), w.ownsRow base e size (.slice (some ⟨g, 0, none⟩) n cap) n xs → (w.setCells g o vs).ownsRow base e size (.slice (some ⟨g, 0, none⟩) n cap) n (setL xs o vs)
  | [], _, _, _, h => h
  | v :: vs, o, w, xs, h => own_setCells vs (o + 1) _ _ (h.stored o v).1
theorem setCells_blk (g : Nat) : ∀ (vs : List Value) (o : Nat) (w : World) (k : Nat), k ≠ g → (w.setCells g o vs).heap[k]? = w.heap[k]?
  | [], _, _, _, _ => rfl
  | v :: vs, o, w, k, h => (setCells_blk g vs (o + 1) _ k h).trans (Below.heap_setCell w _ _ k h)
theorem setCells_size (g : Nat) : ∀ (vs : List Value) (o : Nat) (w : World), (w.setCells g o vs).heap.size = w.heap.size
  | [], _, _ => rfl
  | v :: vs, o, w => (setCells_size g vs (o + 1) _).trans (by simp)
theorem setCells_os (g : Nat) : ∀ (vs : List Value) (o : Nat) (w : World), (w.setCells g o vs).os = w.os ∧ (w.setCells g o vs).tape = w.tape ∧ (w.setCells g o vs).output = w.output
  | [], _, _ => ⟨rfl, rfl, rfl⟩
  | v :: vs, o, w => setCells_os g vs (o + 1) (w.setCell ⟨g, o, none⟩ v)
theorem setL_mid : ∀ (vs P A B : List Value), A.length = vs.length → setL (P ++ (A ++ B)) P.length vs = P ++ (vs ++ B)
  | [], P, A, B, h => by
    have : A = [] := List.length_eq_zero_iff.1 h
    subst this
    rfl
  | v :: vs, P, A, B, h => by
    cases A with
    | nil => simp at h
    | cons a A =>
      show setL ((P ++ (a :: A ++ B)).set P.length v) (P.length + 1) vs = _
      have e : (P ++ (a :: A ++ B)).set P.length v = (P ++ [v]) ++ (A ++ B) := by
        rw [List.set_append_right _ _ (Nat.le_refl _), Nat.sub_self]
        simp
      have e2 : P.length + 1 = (P ++ [v]).length := by simp
      rw [e, e2, setL_mid vs (P ++ [v]) A B (by simpa using h)]
      simp
theorem setL_fl {β : Type} {cv : β → Array Value} {sz : Nat} (hc : ∀ x, (cv x).size = sz) (l : List β) (i : Nat) (y : β) (hi : i < l.length) : setL (fl cv l) (i * sz) (cv y).toList = fl cv (l.set i y) := by
  have e1 : l = l.take i ++ (l[i] :: l.drop (i + 1)) := by simp
  have e2 : fl cv l = fl cv (l.take i) ++ ((cv l[i]).toList ++ fl cv (l.drop (i + 1))) := by
    conv => lhs; rw [e1]
    rw [fl_app, fl_cons]
  have e3 : i * sz = (fl cv (l.take i)).length := by
    rw [fl_len hc, List.length_take, Nat.min_eq_left (by omega)]
  have e4 : l.set i y = l.take i ++ (y :: l.drop (i + 1)) := by
    rw [List.set_eq_take_append_cons_drop, if_pos hi]
  rw [e2, e3, setL_mid _ _ _ _ (by simp [hc]), e4, fl_app, fl_cons]
section
variable {β : Type} {cv : β → Array Value} {sz : Nat} {w : World} {base g cap : Nat} {e : TypeId}
theorem own_range (hc : ∀ x, (cv x).size = sz) (z : β) {l : List β} (h : w.ownsRow base e sz (.slice (some ⟨g, 0, none⟩) l.length cap) l.length (fl cv l)) (i : Nat) (hi : i < l.length) : w.rangeAt g (i * sz) (cv (l.getD i z)).toList := fun j v hv => by
  have hj := (List.getElem?_eq_some_iff.1 hv).1
  rw [Array.length_toList, hc] at hj
  have h2 : i * sz + j < l.length * sz := by
    have := Nat.mul_le_mul_right sz (show i + 1 ≤ l.length from hi)
    rw [Nat.add_mul] at this
    omega
  rw [World.ownsRow.cellAt h _ h2, fl_at hc z l i j hi hj, hv]
theorem own_there {n : Nat} {xs : List Value} (h : w.ownsRow base e sz (.slice (some ⟨g, 0, none⟩) n cap) n xs) (i : Nat) (hi : i < n) : w.there g (i * sz) sz := fun j hj => by
  have h2 : i * sz + j < n * sz := by
    have := Nat.mul_le_mul_right sz (show i + 1 ≤ n from hi)
    rw [Nat.add_mul] at this
    omega
  have hx := h.1
  exact ⟨by rw [World.ownsRow.cellAt h _ h2, List.getElem?_eq_getElem (by omega)]; rfl, World.ownsRow.frozenAt h _⟩
theorem own_put (hc : ∀ x, (cv x).size = sz) {l : List β} (h : w.ownsRow base e sz (.slice (some ⟨g, 0, none⟩) l.length cap) l.length (fl cv l)) (i : Nat) (hi : i < l.length) (y : β) : (w.setCells g (i * sz) (cv y).toList).ownsRow base e sz (.slice (some ⟨g, 0, none⟩) (l.set i y).length cap) (l.set i y).length (fl cv (l.set i y)) := by
  have := own_setCells (cv y).toList (i * sz) w _ h
  rw [setL_fl hc l i y hi] at this
  rw [List.length_set]
  exact this
end
theorem Bk.setL {b : Nat} {t : TypeId} : ∀ (vs : List Value) (o : Nat) (w : World) (cs : List Value), Bk w b cs.toArray t → Bk (w.setCells b o vs) b (Go.Proofs.YtnolbpekdikamaaGreatDoor.setL cs o vs).toArray t
  | [], _, _, _, h => h
  | v :: vs, o, w, cs, h => Bk.setL vs (o + 1) _ (cs.set o v) (by have := h.set o v; simpa using this)
theorem Bk.setCells {w : World} {b : Nat} {cs cs' : Array Value} {t : TypeId} (h : Bk w b cs t) (hz : cs.size = cs'.size) : Bk (w.setCells b 0 cs'.toList) b cs' t := by
  have h1 := Bk.setL (b := b) (t := t) cs'.toList 0 w cs.toList (by simpa using h)
  have h2 := setL_mid cs'.toList [] cs.toList [] (by simpa using hz)
  simp only [List.nil_append, List.append_nil, List.length_nil] at h2
  rw [h2] at h1
  simpa using h1
theorem Bk.there {w : World} {b : Nat} {cs : Array Value} {t : TypeId} (h : Bk w b cs t) : w.there b 0 cs.size := fun j hj => by
  rw [Nat.zero_add, cell_of_row w b j _ _ _ h]
  exact ⟨by simp [hj], h.free j⟩
theorem gsetCells {a w : World} (h : Below a.heap.size a w) {b : Nat} (hb : a.heap.size ≤ b) : ∀ (vs : List Value) (o : Nat), Below a.heap.size a (w.setCells b o vs)
  | vs, o => by
    have e := setCells_os b vs o w
    exact ⟨e.1.trans h.os, e.2.1.trans h.tape, e.2.2.trans h.output, by rw [setCells_size]; exact h.size, fun k hk => (setCells_blk b vs o w k (by omega)).trans (h.block k hk)⟩
/-- One more element: where the new slice lies. -/
theorem run_append_one {P : Program} {w : World} {TS T : TypeId} {ty : TypeId} {z : Value} {sz by_ : Nat} (hu : P.underlying TS = some (.slice T)) (nf : (P.info? T).map (fun i => (i.zero, i.size, i.bytes)) = some (some z, sz, by_)) (hzs : z.cells.size = sz) (hsz : 0 < sz)
    {v : Value} {base n : Nat} {xs : List Value} (O : w.ownsRow base T sz v n xs) (hb : base ≤ w.heap.size)
    (ad : Addr) (c : Nat) (ys : List Value) (hy : ys.length = sz) (A : ∀ j u, ys[j]? = some u → w.cell? (ad.add j) = some u) (h1 : ∀ u ∈ ys, u.oneCell' = true) (h63 : n + 1 ≤ 9223372036854775807) (hl : ((n + 1) + (n + 1) / 4 + 192) * by_ ≤ 281474976710656) :
    ∃ g cap w', (Builtin.append_ #[TS, TS] ty #[v, .slice (some ad) 1 c]).run P w = .ok (.slice (some ⟨g, 0, none⟩) (n + 1) cap) w' ∧ w'.ownsRow base T sz (.slice (some ⟨g, 0, none⟩) (n + 1) cap) (n + 1) (xs ++ ys) ∧ w.grownBy w' v.ownBlock ∧ (v.ownBlock = some g ∨ g = w.heap.size) := by
  obtain ⟨i, ti, tz0, tz1, tz2⟩ := nf_info nf
  have hm : n + 1 ≤ maxLen := by unfold maxLen; omega
  have hy1 : ys.length = 1 * sz := by omega
  obtain ⟨v', w', hr, h2, h3, h4⟩ := run_append_own_wide (P := P) w base TS ty T i z sz by_ hu ti tz0 tz1 tz2 hzs hsz v n xs O ad 1 c ys hy1 A h1 hm hl hb
  obtain ⟨g, cap, rfl, hbg, hlt⟩ := h2.form (by omega)
  refine ⟨g, cap, w', hr, h2, h3, ?_⟩
  rcases id O.2 with ⟨rfl, rfl⟩ | ⟨g0, cap0, cur, rfl, hbg0, hg0, hnc, hcm, hcs, htake⟩
  · right
    subst tz1
    have hr2 := run_append_nil (P := P) w TS ty T i z hu ti tz0 ad 1 c ys hy1 A (by omega) (by omega) (by subst tz2; omega)
    rw [hr2] at hr
    cases hr
    rfl
  · by_cases hroom : n + 1 ≤ cap0
    · left
      obtain ⟨w2, hr2, _, _⟩ := run_append_own_spare (P := P) w base TS ty T i sz hu ti tz1 g0 n cap0 xs O ad 1 c ys hy1 A h1 hroom
      rw [hr2] at hr
      cases hr
      rfl
    · right
      have hx := O.1
      subst tz1
      have hr2 := run_append_grow (P := P) w TS ty T i z hu ti tz0 ⟨g0, 0, none⟩ n cap0 xs hx (World.ownsRow.cells O (g := g0) rfl) ad 1 c ys hy1 A (by omega) (by omega) (growslice_fits_wide (by omega) (by rw [tz2]; exact hl))
      rw [hr2] at hr
      cases hr
      rfl
/-- A row of one element is made. -/
theorem wpList_build1 {P : Program} {w w' : World} {ops : Array Oper} {rest : List Oper} {o : Oper} {a : Act} {Q : Exit → Act → World → Prop} (hgd : o.guard = none) {T : TypeId} (x : Operand) {vx v : Value} (ho : o.op = .buildSlice T 1 #[(0, x)]) (hx : a.eval x = vx) (hr : (Instr.buildSlice T 1 #[(0, vx)]).run P w = .ok v w')
    (h : wpList P ops Q rest (a.put o.dst v) w') : wpList P ops Q (o :: rest) a w := by
  refine wpList_plain hgd fun K hK => ?_
  unfold Oper.wp execOp
  simp only [ho, List.map_toArray, List.map_cons, List.map_nil, hx, Sem.run_bind, hr, Result.andThen_ok, Sem.run_pure]
  exact hK _ _ h
/-- The same at a list of operations. -/
theorem wpList_append_one {P : Program} {w : World} {ops : Array Oper} {rest : List Oper} {o : Oper} {a : Act} {Q : Exit → Act → World → Prop} (hgd : o.guard = none) (s x : Operand) {TS T : TypeId} {z : Value} {sz by_ : Nat}
    (ho : o.op = .call { callee := .builtin .append, args := #[s, x], argTypes := #[TS, TS] }) (hu : P.underlying TS = some (.slice T)) (nf : (P.info? T).map (fun i => (i.zero, i.size, i.bytes)) = some (some z, sz, by_)) (hzs : z.cells.size = sz) (hsz : 0 < sz)
    (v : Value) (base n : Nat) (xs : List Value) (hs : a.eval s = v) (O : w.ownsRow base T sz v n xs) (hb : base ≤ w.heap.size)
    (ad : Addr) (c : Nat) (ys : List Value) (hx : a.eval x = .slice (some ad) 1 c) (hy : ys.length = sz) (A : ∀ j u, ys[j]? = some u → w.cell? (ad.add j) = some u) (h1 : ∀ u ∈ ys, u.oneCell' = true) (h63 : n + 1 ≤ 9223372036854775807) (hl : ((n + 1) + (n + 1) / 4 + 192) * by_ ≤ 281474976710656)
    (h : ∀ g cap w', w'.ownsRow base T sz (.slice (some ⟨g, 0, none⟩) (n + 1) cap) (n + 1) (xs ++ ys) → w.grownBy w' v.ownBlock → (v.ownBlock = some g ∨ g = w.heap.size) → wpList P ops Q rest (a.put o.dst (.slice (some ⟨g, 0, none⟩) (n + 1) cap)) w') : wpList P ops Q (o :: rest) a w := by
  refine wpList_plain hgd fun K hK => ?_
  obtain ⟨g, cap, w', hr, h2, h3, h4⟩ := run_append_one (P := P) (ty := o.type) hu nf hzs hsz O hb ad c ys hy A h1 h63 hl
  unfold Oper.wp execOp
  simp only [ho, resolve, invoke, builtin, Sem.run_bind, Sem.run_pure, Result.andThen_ok, List.map_toArray, List.map_cons, List.map_nil, hs, hx, hr]
  exact hK _ _ (h g cap w' h2 h3 h4)
/-- append of a whole row onto a row of one's own, up to what growing bears. -/
theorem wpList_append_flatw {P : Program} {w : World} {ops : Array Oper} {rest : List Oper} {o : Oper} {a : Act} {Q : Exit → Act → World → Prop} (hgd : o.guard = none) (s x : Operand) {TS T : TypeId} {z : Value} {sz by_ : Nat}
    (ho : o.op = .call { callee := .builtin .append, args := #[s, x], argTypes := #[TS, TS] }) (hu : P.underlying TS = some (.slice T)) (nf : (P.info? T).map (fun i => (i.zero, i.size, i.bytes)) = some (some z, sz, by_)) (hzs : z.cells.size = sz) (hsz : 0 < sz)
    (v : Value) (base n : Nat) (xs : List Value) (hs : a.eval s = v) (O : w.ownsRow base T sz v n xs) (hb : base ≤ w.heap.size)
    (ao : Option Addr) (m cap : Nat) (ys : List Value) (hx : a.eval x = .slice ao m cap) (hsl : Sl ao m cap) (A : Flat w ao ys) (hy : ys.length = m * sz) (h1 : ∀ u ∈ ys, u.oneCell' = true) (hl : ((n + m) + (n + m) / 4 + 192) * by_ ≤ 281474976710656) (hl2 : n + m ≤ 9223372036854775807)
    (h : ∀ v' w', w'.ownsRow base T sz v' (n + m) (xs ++ ys) → w.grownBy w' v.ownBlock → wpList P ops Q rest (a.put o.dst v') w') : wpList P ops Q (o :: rest) a w := by
  obtain ⟨i3, ti, tz0, tz1, tz2⟩ := nf_info nf
  cases ao with
  | none =>
    obtain ⟨h0, rfl⟩ := hsl.2 rfl
    subst h0
    have hys : ys = [] := List.length_eq_zero_iff.1 (by omega)
    subst hys
    refine wpList_plain hgd fun K hK' => ?_
    have hrun := run_append_owned_none (P := P) w base TS o.type T i3 sz hu ti v n xs O
    unfold Oper.wp
    simp [execOp, ho, resolve, invoke, builtin, hs, hx, hrun, Result.andThen]
    refine hK' _ _ (h _ _ ?_ (World.grownBy.refl _ _))
    rw [List.append_nil]
    exact O
  | some ad =>
    refine wpList_append_own_wide (w := w) hgd s x TS ho base T i3 z sz by_ hu ti tz0 tz1 tz2 hzs hsz v n xs hs O ad m cap ys hx hy (fun j u hj => ?_) h1 (by unfold maxLen; omega) hl hb (fun v' w' h1 h2 _ => h v' w' h1 h2)
    obtain ⟨g, off, e, c0⟩ := A j u hj
    cases e
    rw [Go.WideShapes.add_plain]
    exact c0

end Go.Proofs.YtnolbpekdikamaaGreatDoor
namespace Go.Proofs.YtnolbpekdikamaaGreatDoor
open Go.RowKit
set_option linter.unusedVariables false
set_option linter.unusedSimpArgs false

section
variable {P : Program} {ops : Array Oper} {md : Region.Mode} {C : World → Prop}

/-- Each of the first n operations but f is waited for. -/
def sinkF (md : Region.Mode) (ops : Array Oper) (n f : Nat) : Bool :=
  (List.range n).all fun i => i == f || (List.range (n + 1)).any fun j => decide (i < j) && Region.waitsFor md ops j i
theorem tail_waitsF {n f : Nat} {listed : Array Bool} (hs : sinkF md ops n f = true) (hc : Region.chainB md ops n = true) (hn : n < ops.size) (inv : HeadInv md ops n listed) (hfl : listed.getD f false = true) (t : Nat) (ht : n ≤ t) (hr : t ∈ Region.ready md ops listed) :
    ∀ (d i : Nat), n - i = d → i < n → listed.getD i true = false → False := by
  obtain ⟨_, ot, hot, hall⟩ := mem_ready.1 hr
  have htlt : t < ops.size := (Array.getElem?_eq_some_iff.1 hot).1
  intro d
  induction d using Nat.strongRecOn with
  | _ d ih =>
    intro i hd hi hun
    rcases Nat.lt_or_ge n t with htn | htn
    · have h1 := List.all_eq_true.1 hc t (List.mem_range.2 htlt)
      simp only [Bool.or_eq_true, decide_eq_true_eq] at h1
      rcases h1 with h1 | h1
      · omega
      · obtain ⟨o', ho', e, he, hb, hon⟩ := Region.waitsFor_spec h1
        obtain rfl : o' = ot := Option.some.inj (ho'.symm.trans hot)
        have h2 := hall e he hb
        rw [hon, getD_both (inv.tail (t - 1) (by omega) (by omega))] at h2
        cases h2
    · obtain rfl : t = n := by omega
      have hif : i ≠ f := fun e => by rw [e] at hun; rw [getD_both hun] at hfl; cases hfl
      have h1 := List.all_eq_true.1 hs i (List.mem_range.2 hi)
      simp only [Bool.or_eq_true, beq_iff_eq] at h1
      rcases h1 with h1 | h1
      · exact hif h1
      obtain ⟨j, hj, hj2⟩ := List.any_eq_true.1 h1
      simp only [Bool.and_eq_true, decide_eq_true_eq] at hj2
      obtain ⟨oj, hoj, e, he, hb, hon⟩ := Region.waitsFor_spec hj2.2
      have hjle : j ≤ t := by have := List.mem_range.1 hj; omega
      by_cases hjt : j = t
      · subst hjt
        obtain rfl : oj = ot := Option.some.inj (hoj.symm.trans hot)
        have h2 := hall e he hb
        rw [hon, getD_both hun] at h2
        cases h2
      · cases hl : listed.getD j false with
        | true =>
          have h2 := inv.closed j oj hoj hl e he hb
          rw [hon, getD_both hun] at h2
          cases h2
        | false => exact ih (t - j) (by omega) j rfl (by omega) (getD_in (by rw [inv.size]; omega) hl)
theorem headF_first {n f i : Nat} {oi : Oper} {v : Value} {L : Array Bool → Act → Prop} (hi : ops[i]? = some oi) (hsel : ∀ (j : Nat) (o : Oper) cs b, ops[j]? = some o → o.op ≠ .select cs b)
    (hs : sinkF md ops n f = true) (hc : Region.chainB md ops n = true) (hn : n < ops.size) (hin : i < n)
    (hdone : ∀ listed a, L listed a → ∀ j ∈ Region.ready md ops listed, n ≤ j) (k : Nat) :
    ∀ (listed : Array Bool) (a : Act), HeadInv md ops n listed → listed.getD f false = true →
      (∀ j oj, ops[j]? = some oj → j ≠ i → listed.getD j true = false → (∀ e ∈ oj.after, Region.binds md e = true → e.on ≠ i) → oi.apart ops oj = true) →
      i ∈ Region.ready md ops listed → YieldsIn P ops C oi v a →
      headQ P md ops C n L k (listed.setIfInBounds i true) (a.put oi.dst v) → headQ P md ops C n L (k + 1) listed a := by
  induction k with
  | zero =>
    intro listed a inv hfl _ hr hy H
    refine ⟨fun h => (by rw [h] at hr; cases hr), fun j hj => ?_⟩
    have hjn : j < n := Nat.lt_of_not_le fun h => tail_waitsF hs hc hn inv hfl j h hj _ i rfl hin (mem_ready.1 hr).1
    refine ⟨hjn, ?_⟩
    by_cases hji : j = i
    · subst hji; exact hy.qOp hi H
    · have := hdone _ _ H j (ready_mono hj hji); omega
  | succ k ih =>
    intro listed a inv hfl hfree hr hy H
    have hun := (mem_ready.1 hr).1
    refine ⟨fun h => (by rw [h] at hr; cases hr), fun j hj => ?_⟩
    have hjn : j < n := Nat.lt_of_not_le fun h => tail_waitsF hs hc hn inv hfl j h hj _ i rfl hin hun
    refine ⟨hjn, ?_⟩
    by_cases hji : j = i
    · subst hji; exact hy.qOp hi H
    obtain ⟨hjun, oj, hoj, hall⟩ := mem_ready.1 hj
    have hnot : ∀ e ∈ oj.after, Region.binds md e = true → e.on ≠ i := fun e he hb heq => by
      have h1 := hall e he hb
      rw [heq, getD_both hun] at h1
      cases h1
    have h2 := qOp_put hoj (hfree j oj hoj hji hjun hnot) (fun cs b => hsel i oi cs b hi) (fun cs b => hsel j oj cs b hoj) hy (H.2 j (ready_mono hj hji)).2
    refine qOp_mono (fun a' h3 => ih (listed.setIfInBounds j true) a' (inv.set hj hjn) (getD_set_true hfl) (fun k ok hk hki hu hno => hfree k ok hk hki ?_ hno) (ready_mono hr (Ne.symm hji)) h3.1 ?_) h2
    · by_cases hjk : j = k
      · subst hjk; exact hjun
      · rwa [getD_set_ne true hjk] at hu
    · rw [Array.setIfInBounds_comm _ _ hji]
      exact h3.2
def lexK (md : Region.Mode) (ops : Array Oper) (g n : Nat) : List Nat → Array Bool → Bool
  | [], listed => Region.seqB md ops g n listed
  | k :: ks, listed => decide (k < n) && (Region.ready md ops listed).contains k && Region.free md ops listed k && lexK md ops g n ks (listed.setIfInBounds k true)
theorem headF_lex {n f g : Nat} {Lq : Act → Prop} (hsel : Region.noSelect ops = true) (hs : sinkF md ops n f = true) (hc : Region.chainB md ops n = true) (hn : n < ops.size) :
    ∀ (ks : List Nat) (l : List Oper) (listed : Array Bool) (a : Act), l.map some = ks.map (fun k => ops[k]?) → HeadInv md ops n listed → listed.getD f false = true →
    lexK md ops g n ks listed = true → wpQuiet P ops C Lq l a →
    headQ P md ops C n (fun listed' a' => Region.seqB md ops g n listed' = true ∧ Lq a') ks.length listed a
  | [], l, listed, a, hl, inv, hfl, hB, h => by
    have : l = [] := by simpa using hl
    subst this
    exact ⟨by simpa [lexK] using hB, h⟩
  | k :: ks, [], listed, a, hl, inv, hfl, hB, h => by simp at hl
  | k :: ks, o :: l, listed, a, hl, inv, hfl, hB, h => by
    simp only [List.map_cons, List.cons.injEq] at hl
    have h0 : ops[k]? = some o := hl.1.symm
    simp only [lexK, Bool.and_eq_true, decide_eq_true_eq] at hB
    obtain ⟨⟨⟨hkn, hr⟩, hf⟩, hB'⟩ := hB
    have hr' : k ∈ Region.ready md ops listed := by simpa using hr
    have hst : qOp P ops C k (wpQuiet P ops C Lq l) a := by unfold qOp; simp only [h0]; exact h
    obtain ⟨v, hy, hK⟩ := yieldsIn_of_qOp h0 hst
    exact headF_first h0 (Region.noSelect_spec hsel) hs hc hn hkn (fun listed' a' hL => seqB_ready hL.1) ks.length listed a inv hfl (Region.free_spec h0 hf) hr' hy
      (headF_lex hsel hs hc hn ks l _ _ hl.2 (inv.set hr' hkn) (getD_set_true hfl) hB' hK)
def floatB (md : Region.Mode) (ops : Array Oper) (n f : Nat) : Bool :=
  Region.noSelect ops && decide (n < ops.size) && decide (f < n) && sinkF md ops n f && Region.chainB md ops n && (Region.ready md ops (Array.replicate ops.size false)).contains f && Region.free md ops (Array.replicate ops.size false) f && lexK md ops (ops.size - n) n ((List.range n).eraseIdx f) ((Array.replicate ops.size false).setIfInBounds f true)
theorem wp_region_quiet_float {id : Nat} {Q : Exit → Act → World → Prop} {a : Act} {w : World} {l : List Oper} (n f : Nat) (o : Oper) (x : Operand) (ho : l[f]? = some o) (hop : o.op = .move x) (hgd : o.guard = none) (hm : P.follows .mixedOrders = true) (hB : floatB .any l.toArray n f = true) (hQ : ∀ c (a : Act) (w : World), Q (.panic c) (a.put o.dst (a.eval x)) w → Q (.panic c) a w) (hQ' : ∀ c (a : Act) (v : Value) (w : World), Q (.panic c) (a.put o.dst v) w → Q (.panic c) a w) (hC : C { w with drawn := w.drawn + 1 })
    (h : wpQuiet P l.toArray C (fun a' => ∀ X, C X → wpList P l.toArray Q (l.drop n) a' X) ((l.take n).eraseIdx f) (a.put o.dst (a.eval x))) : (Code.region id l.toArray true).wp P Q a w := by
  simp only [floatB, Bool.and_eq_true, decide_eq_true_eq] at hB
  obtain ⟨⟨⟨⟨⟨⟨⟨hsel, hn⟩, hfn⟩, hs⟩, hc⟩, hr0⟩, hf0⟩, hlex⟩ := hB
  have hn' : n < l.length := by simpa using hn
  have hdl : (l.drop n).length = l.toArray.size - n := by simp
  have inv0 : HeadInv .any l.toArray n (Array.replicate l.toArray.size false) :=
    ⟨by simp, fun j oj _ hl => (by rw [getD_replicate_false] at hl; cases hl), fun t _ ht => getD_in (by simpa using ht) (getD_replicate_false _ _)⟩
  have ho' : l.toArray[f]? = some o := by simpa using ho
  have hr' : f ∈ Region.ready .any l.toArray (Array.replicate l.toArray.size false) := by simpa using hr0
  have inv1 := inv0.set hr' hfn
  have hfl : ((Array.replicate l.toArray.size false).setIfInBounds f true).getD f false = true := by
    have : f < l.length := by omega
    simp [this]
  have hks : ((List.range n).eraseIdx f).length = n - 1 := by rw [List.length_eraseIdx_of_lt (by simpa using hfn)]; simp
  have H := headF_lex (P := P) (C := C) (md := .any) (f := f) (g := l.toArray.size - n) (Lq := fun a' => ∀ X, C X → wpList P l.toArray Q (l.drop n) a' X) hsel hs hc hn ((List.range n).eraseIdx f) ((l.take n).eraseIdx f) _ (a.put o.dst (a.eval x)) (by
    have em : ∀ {α γ : Type} (g : α → γ) (m : List α) (k : Nat), (m.eraseIdx k).map g = (m.map g).eraseIdx k := fun g m k => by simp [List.eraseIdx_eq_take_drop_succ]
    rw [em, em]
    congr 1
    apply List.ext_getElem?
    intro j
    by_cases hj : j < n
    · have hjl : j < l.length := by omega
      simp [hj, hjl]
    · have : ¬ j < min n l.length := by omega
      simp [hj, List.getElem?_take]) inv1 hfl hlex h
  refine wp_region_any hm ?_
  have h2 := any_of_headQ (Q' := Q) (g := l.toArray.size - n) (fun listed a' w' hw' hL => by
    have := wpAny_of_seq (md := .any) (Q' := Q) (l.drop n) n listed a' w' (fun j => by simp [List.getElem?_drop]) (by rw [hdl]; exact hL.1) (hL.2 w' hw')
    rwa [hdl] at this) _ _ _ _ hC H
  rw [hks] at h2
  have e : n - 1 + (l.toArray.size - n) + 1 = l.toArray.size := by omega
  suffices hh : wpAny P .any l.toArray Q (n - 1 + (l.toArray.size - n) + 1) (Array.replicate l.toArray.size false) a { w with drawn := w.drawn + 1 } by rw [e] at hh; exact hh
  refine wpAny_take ho' hsel hf0 hr0 (fun c a w h => hQ' c a _ w h) ?_ h2
  refine .inl ⟨by simp [Region.wanted, hgd], fun w => ?_⟩
  simp [execOp, hop]
end
theorem wp_region_ext_float {P : Program} {id : Nat} {Q : Exit → Act → World → Prop} {a : Act} {w : World} {l : List Oper} (n f : Nat) (v : Value) (o : Oper) (x : Operand) (ho : l[f]? = some o) (hop : o.op = .move x) (hv : a.eval x = v) (hgd : o.guard = none) (hm : P.follows .mixedOrders = true) (hB : floatB .any l.toArray n f = true) (hQ : ∀ c (a : Act) (v : Value) (w : World), Q (.panic c) (a.put o.dst v) w → Q (.panic c) a w)
    (h : wpQuiet P l.toArray (fun X => ∃ n : Ext w, X = n.X) (fun a' => ∀ X, (∃ n : Ext w, X = n.X) → wpList P l.toArray Q (l.drop n) a' X) ((l.take n).eraseIdx f) (a.put o.dst v)) : (Code.region id l.toArray true).wp P Q a w :=
  wp_region_quiet_float (C := fun X => ∃ n : Ext w, X = n.X) n f o x ho hop hgd hm hB (fun c a w h => hQ c a _ w h) hQ ⟨⟨_, (Below.refl _ w).drew⟩, rfl⟩ (by rw [hv]; exact h)

end Go.Proofs.YtnolbpekdikamaaGreatDoor
