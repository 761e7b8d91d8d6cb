/- For every schema, every query, every operator, every two lists of nodes and every environment, all of them together of bulk at most 1048576, the law CodeComposes returns true: what an operator comes to is num's answer of what its operands come to; where the kinds do not fit it is unknown. The listed variables hold what their texts lay (the card ties that to the text). -/
import Derived.Test.YtbcomgfdbanjlaaDoorJb25
import Derived.Test.YtbcomgfdbanjlaaDoorCards
import Derived.Test.YtbcomgfdbanjlaaDoorTie
import Derived.OpenShut
import Derived.Carry
import Derived.ChangeMaps5
import Derived.SizedLaws
import Derived.Lib.SmallJoins
import Derived.Deep.DeepHandedRow
import Derived.Lay
namespace Go.Proofs.YtbcomgfdbanjlaaDoor.codeComposes
open Go.ChangeShapes Go.WideShapes Go.ChangeAt Go.RowKit Go.BigFrame
set_option linter.unusedVariables false
set_option linter.unusedSimpArgs false

theorem walk (ao : Option Addr) (n cap : Nat) (L : List Ty) (wc : n ≤ cap) (q : Qy) (cs : Array Value) (ai : Option Addr) (ci : Nat) (aw : Option Addr) (cw : Nat) (ar : Option Addr) (cr : Nat) (op : Int) (hop : (Lit.int .i64 op).wf = true) (no : Option Addr) (nca : Nat) (a : List Nd) (mo : Option Addr) (mca : Nat) (b : List Nd) (E : Envr) (al : Option Addr) (cl : Nat) (W : World) (K : KwAt W) (T : Tabs W) (TN : TabN W) (O : OpAt W) (A : IsTypes W ao n L) (h40 : n * 40 ≤ 140737488351232) (h16 : ∀ j, (L.getD j noTy).2.length * 16 ≤ 140737488351232) (IQ : IsQ W q cs ai ci aw cw ar cr) (hq : q.fit)
    (hca : a.length ≤ nca) (hna : no = none → a.length = 0 ∧ nca = 0) (NA : IsNds W no a) (hra : a.length * 64 ≤ 140737488351232) (fa : ∀ k, (a.getD k noNd).fit) (ua : a.length ≤ 1048576) (hcb : b.length ≤ mca) (hnb : mo = none → b.length = 0 ∧ mca = 0) (NB : IsNds W mo b) (hrb : b.length * 64 ≤ 140737488351232) (fb : ∀ k, (b.getD k noNd).fit) (ub : b.length ≤ 1048576)
    (IE : IsEnv W E al cl) (hE0 : (∀ k, (E.lists.getD k []).length ≤ 2147483647) → E.ok) (hEn : E.lists.length * 24 ≤ 140737488351232) (hEl : ∀ k, (E.lists.getD k []).length * 88 ≤ 140737488351232) :
    Calls Tryd.prog 5 #[.agg #[.slice ao n cap], .agg cs, .int .i64 op, .slice no a.length nca, .slice mo b.length mca, envA al cl E] W fun e w' => e = .returned (.bool true) ∧ Below W.heap.size W w' := by
  have hn := A.1
  subst hn
  exact codeComposes_walk ao cap L q hq cs ai ci aw cw ar cr op (wfI7 hop) a b no nca mo mca hna E al cl W K ⟨T, TN, O⟩ A IQ NA NB IE hE0 hEn hEl fa fb (by omega) (by omega)

theorem own : ownKnob Tryd.prog.godebug = none := by kernel_rfl
theorem laidOut : laidOutB Tryd.prog = true := by kernel_rfl
theorem bulk_one {H : Type} (d : DataW H) : 1 ≤ Rows.uptoBulk d := by
  cases d with
  | lit l => cases l <;> simp [Rows.uptoBulk]
  | nil => simp [Rows.uptoBulk]
  | ptr d => simp [Rows.uptoBulk]
  | slice a b => simp [Rows.uptoBulk]
  | agg a => simp [Rows.uptoBulk]
  | iface t d => simp [Rows.uptoBulk]
  | map a => simp [Rows.uptoBulk]
  | held a => simp [Rows.uptoBulk]
theorem bulk_len {H : Type} : ∀ l : List (DataW H), l.length ≤ Rows.uptoBulkAll l
  | [] => Nat.zero_le _
  | d :: r => by
    have h1 := bulk_one d
    have h2 := bulk_len r
    simp only [List.length_cons, Rows.uptoBulkAll]
    omega
theorem lmTail {P : Program} {x : String × DataW Unit} {r : List (String × DataW Unit)} {w : World} (h : laidMet P (x :: r) w) : laidMet P r w := by
  obtain ⟨ps, ⟨g, t, cs, fuel, p, q, hg, ht, hvar, hd, hq, rfl⟩, hn, hall⟩ := h
  refine ⟨q, hq, ?_, fun b off hm => hall b off (List.mem_append_right _ hm)⟩
  exact (List.nodup_append.1 hn).2.1
theorem cellsSchema : Tryd.prog.cellsOf 24 = 1 := by kernel_rfl

theorem gAnd : Tryd.prog.globalNamed "sluice/num.andTable" = some 2 := by kernel_rfl
theorem gOr : Tryd.prog.globalNamed "sluice/num.orTable" = some 3 := by kernel_rfl
theorem gNot : Tryd.prog.globalNamed "sluice/num.notTable" = some 0 := by kernel_rfl
theorem gKw : Tryd.prog.globalNamed "sluice/api.Keywords" = some 4 := by kernel_rfl
theorem tabs {W : World} (h : laidMetH Tryd.prog Rows.codeComposesUptoRow.laid W) : KwAt W := by
  have h0 : laidMet Tryd.prog Rows.codeComposesUptoRow.laid W := (Go.MakeChecks.laidMetH_plain _ _ _ (by kernel_rfl)).mp h
  exact kwAt_of (tabS (bss := kwl) gKw (by kernel_rfl) Tryd.underlying161 Tryd.underlying9 (by kernel_rfl) (lmTail h0))
theorem tabN {W : World} (h : laidMetH Tryd.prog Rows.codeComposesUptoRow.laid W) : TabN W := by
  have h0 : laidMet Tryd.prog Rows.codeComposesUptoRow.laid W := (Go.MakeChecks.laidMetH_plain _ _ _ (by kernel_rfl)).mp h
  have h2 := (lmTail (lmTail (lmTail (lmTail h0))))
  have cn := tab3 (z := fun i => notI i) gNot (by kernel_rfl) Tryd.underlying109 Tryd.underlying108 (by kernel_rfl) (by kernel_rfl) h2
  exact ⟨block_of (cn 0 (by omega)), fun i hi => (cn i hi).trans (by rw [notI_eq i hi])⟩
theorem tabT {W : World} (h : laidMetH Tryd.prog Rows.codeComposesUptoRow.laid W) : Tabs W := by
  have h0 : laidMet Tryd.prog Rows.codeComposesUptoRow.laid W := (Go.MakeChecks.laidMetH_plain _ _ _ (by kernel_rfl)).mp h
  have ca := tab33 (z := fun i j => minI i j) gAnd (by kernel_rfl) Tryd.underlying139 Tryd.underlying109 Tryd.underlying108 (by kernel_rfl) (by kernel_rfl) (by kernel_rfl) (lmTail (lmTail h0))
  have co := tab33 (z := fun i j => maxI i j) gOr (by kernel_rfl) Tryd.underlying139 Tryd.underlying109 Tryd.underlying108 (by kernel_rfl) (by kernel_rfl) (by kernel_rfl) (lmTail (lmTail (lmTail h0)))
  exact ⟨block_of (co 0 0 (by omega) (by omega)), ca, co⟩
theorem tabO {W : World} (h : laidMetH Tryd.prog Rows.codeComposesUptoRow.laid W) : OpAt W := by
  have h0 : laidMet Tryd.prog Rows.codeComposesUptoRow.laid W := (Go.MakeChecks.laidMetH_plain _ _ _ (by kernel_rfl)).mp h
  exact opAt_of (lmTail (lmTail (lmTail (lmTail (lmTail (lmTail (lmTail h0)))))))

set_option maxRecDepth 100000 in
theorem contract (H : Type) (enc : TypeId × Value → H) (W : World) (base : Nat) (args : Array Value) (ds gs : List (DataW H)) (before : List MemPlace)
    (hval : ∀ (j : Nat) t v, Tryd.f5.params[j]? = some t → args[j]? = some v → Value.okWide Tryd.prog W .any base t v)
    (hsz : (DataW.weightsEach Tryd.prog (Tryd.f5.params.toList ++ Rows.codeComposesSpec.plain.varTypes Tryd.prog) (ds ++ gs)).all (· ≤ reachBytes) = true)
    (hk : Rows.uptoSmall H (ds ++ gs) = true)
    (hW : DataW.Whole enc Tryd.prog Tryd.f5.params.toList Rows.codeComposesSpec.vars false W args.toList ds gs before) (hL : laidMetH Tryd.prog Rows.codeComposesUptoRow.laid W) :
    Calls Tryd.prog 5 args W fun e W' => ∃ v, e = .returned v ∧ Rows.codeComposesSpec.post enc Tryd.prog Tryd.f5 false true false false W args v W' := by
  have hW' := hW
  obtain ⟨p, q, hA0, hV, rfl, hfz, hnd⟩ := hW
  have hA : DataW.TrodAll enc Tryd.prog W 0 (fun _ => true) true Tryd.f5.params.toList args.toList ds p := hA0
  rw [Tryd.params5] at hA hval hsz
  obtain ⟨v0, vs0, d0, ds0, p0, q0, hargs, rfl, rfl, h0, r0⟩ := trodAll_cons hA
  obtain ⟨v1, vs1, d1, ds1, p1, q1, rfl, rfl, rfl, h1, r1⟩ := trodAll_cons r0
  obtain ⟨v2, vs2, d2, ds2, p2, q2, rfl, rfl, rfl, h2, r2⟩ := trodAll_cons r1
  obtain ⟨v3, vs3, d3, ds3, p3, q3, rfl, rfl, rfl, h3, r3⟩ := trodAll_cons r2
  obtain ⟨v4, vs4, d4, ds4, p4, q4, rfl, rfl, rfl, h4, r4⟩ := trodAll_cons r3
  obtain ⟨v5, vs5, d5, ds5, p5, q5, rfl, rfl, rfl, h5, r5⟩ := trodAll_cons r4
  obtain ⟨rfl, rfl, rfl⟩ := trodAll_nil r5
  obtain rfl : args = #[v0, v1, v2, v3, v4, v5] := by cases args; simp_all
  obtain ⟨rfl, rfl⟩ := trodVars_none hV
  have k0 := h0
  have lt0 : ∀ x ∈ p0, x.block < W.heap.size := by obtain ⟨m, hm⟩ := k0; exact DataW.trod_lt m _ _ _ hm
  obtain ⟨ao0, n0, cap0, L0, e0, wc0, w0, wr0, ws0⟩ : ∃ ao n cap L, v0 = .agg #[.slice ao n cap] ∧ n ≤ cap ∧ IsTypes W ao n L ∧ n * 40 ≤ 140737488351232 ∧ ∀ j, (L.getD j noTy).2.length * 16 ≤ 140737488351232 := by
    obtain ⟨fuel, hf⟩ := h0
    obtain ⟨y0, m, e1, hl, g0⟩ := trod_struct1 Tryd.underlying24 hf
    obtain ⟨cs, hcs, hcz⟩ := okWide_struct Tryd.underlying24 (hval 0 24 v0 rfl rfl)
    subst hcs
    obtain ⟨c, hc⟩ := Array.size_eq_one_iff.1 (hcz.trans cellsSchema)
    subst hc
    have g0' : DataW.trod enc Tryd.prog W 0 (fun _ => true) true m 22 [c] = some y0 := g0
    obtain ⟨ao, n, cap, L, e2, e6, e3, e4, e5⟩ := open_types g0' (fun b hb => by
      have h1 := List.all_eq_true.1 hsz b (DataW.weights_mem_each (j := 0) (t := 24) rfl (congrArg some (congrArg Prod.fst e1)) b (by
        simp only [DataW.weights, Tryd.underlying24, DataW.weightsEach, List.mem_append]
        simp [DataW.weightsEach, hb]))
      simpa using h1)
    subst e2
    exact ⟨ao, n, cap, L, rfl, e6, e3, e4, e5⟩
  subst e0
  have k1 := h1
  have lt1 : ∀ x ∈ p1, x.block < W.heap.size := by obtain ⟨m, hm⟩ := k1; exact DataW.trod_lt m _ _ _ hm
  obtain ⟨q1, cs1, ai1, ci1, aw1, cw1, ar1, cr1, e1, w1, ws1⟩ : ∃ q cs ai ci aw cw ar cr, v1 = .agg cs ∧ IsQ W q cs ai ci aw cw ar cr ∧ q.fit := by
    obtain ⟨cs, hcs, hcz⟩ := okWide_struct Tryd.underlying31 (hval 1 31 v1 rfl rfl)
    subst hcs
    obtain ⟨fuel, hf⟩ := h1
    have hf' : DataW.trod enc Tryd.prog W 0 (fun _ => true) true fuel 31 cs.toList = some (d1, p1) := hf
    obtain ⟨q, ai, ci, aw, cw, ar, cr, h1, h2⟩ := open_query (hcz.trans cellsQy) hf' (fun b hb => by
      have h1 := List.all_eq_true.1 hsz b (DataW.weights_mem_each (j := 1) (t := 31) rfl rfl b hb)
      simpa using h1)
    exact ⟨q, cs, ai, ci, aw, cw, ar, cr, rfl, h1, h2⟩
  subst e1
  have k2 := h2
  have lt2 : ∀ x ∈ p2, x.block < W.heap.size := by obtain ⟨m, hm⟩ := k2; exact DataW.trod_lt m _ _ _ hm
  obtain ⟨a2, e2, _, _, w2⟩ := open_int Tryd.underlying3 (hval 2 3 v2 rfl rfl) h2
  subst e2
  have k3 := h3
  have lt3 : ∀ x ∈ p3, x.block < W.heap.size := by obtain ⟨m, hm⟩ := k3; exact DataW.trod_lt m _ _ _ hm
  obtain ⟨ao3, cap3, ns3, e3, wc3, wn3, w3, wr3, ws3⟩ : ∃ ao cap ns, v3 = .slice ao ns.length cap ∧ ns.length ≤ cap ∧ (ao = none → ns.length = 0 ∧ cap = 0) ∧ IsNds W ao ns ∧ ns.length * 64 ≤ 140737488351232 ∧ ∀ k, (ns.getD k noNd).fit := by
    obtain ⟨a, len, cap, e⟩ := okWide_slice Tryd.underlying28 (hval 3 28 v3 rfl rfl)
    subst e
    obtain ⟨fuel, hf⟩ := h3
    have hf' : DataW.trod enc Tryd.prog W 0 (fun _ => true) true fuel 28 [.slice a len cap] = some (d3, p3) := hf
    exact open_nds hf' (fun b hb => by
      have h1 := List.all_eq_true.1 hsz b (DataW.weights_mem_each (j := 3) (t := 28) rfl rfl b hb)
      simpa using h1)
  subst e3
  have wu3 : ns3.length ≤ 1048576 := by
    obtain ⟨fuel, hf⟩ := k3
    rcases DataW.trod_slice Tryd.underlying28 hf with ⟨hcs, _⟩ | ⟨a, len, cap, elems, rest, fu, _, hcs, hx, _, _, _, hlen, _⟩
    · have hc2 := (Value.slice.inj (List.cons.inj hcs).1).2.1
      omega
    · have hc2 := (Value.slice.inj (List.cons.inj hcs).1).2.1
      have h1 := of_decide_eq_true hk
      have hd := (Prod.mk.inj hx).1
      rw [hd] at h1
      simp only [List.cons_append, List.nil_append, List.append_nil, Rows.uptoBulkAll, Rows.uptoBulk] at h1
      have h2 := bulk_len (elems.map (·.1))
      rw [List.length_map] at h2
      omega
  have k4 := h4
  have lt4 : ∀ x ∈ p4, x.block < W.heap.size := by obtain ⟨m, hm⟩ := k4; exact DataW.trod_lt m _ _ _ hm
  obtain ⟨ao4, cap4, ns4, e4, wc4, wn4, w4, wr4, ws4⟩ : ∃ ao cap ns, v4 = .slice ao ns.length cap ∧ ns.length ≤ cap ∧ (ao = none → ns.length = 0 ∧ cap = 0) ∧ IsNds W ao ns ∧ ns.length * 64 ≤ 140737488351232 ∧ ∀ k, (ns.getD k noNd).fit := by
    obtain ⟨a, len, cap, e⟩ := okWide_slice Tryd.underlying28 (hval 4 28 v4 rfl rfl)
    subst e
    obtain ⟨fuel, hf⟩ := h4
    have hf' : DataW.trod enc Tryd.prog W 0 (fun _ => true) true fuel 28 [.slice a len cap] = some (d4, p4) := hf
    exact open_nds hf' (fun b hb => by
      have h1 := List.all_eq_true.1 hsz b (DataW.weights_mem_each (j := 4) (t := 28) rfl rfl b hb)
      simpa using h1)
  subst e4
  have wu4 : ns4.length ≤ 1048576 := by
    obtain ⟨fuel, hf⟩ := k4
    rcases DataW.trod_slice Tryd.underlying28 hf with ⟨hcs, _⟩ | ⟨a, len, cap, elems, rest, fu, _, hcs, hx, _, _, _, hlen, _⟩
    · have hc2 := (Value.slice.inj (List.cons.inj hcs).1).2.1
      omega
    · have hc2 := (Value.slice.inj (List.cons.inj hcs).1).2.1
      have h1 := of_decide_eq_true hk
      have hd := (Prod.mk.inj hx).1
      rw [hd] at h1
      simp only [List.cons_append, List.nil_append, List.append_nil, Rows.uptoBulkAll, Rows.uptoBulk] at h1
      have h2 := bulk_len (elems.map (·.1))
      rw [List.length_map] at h2
      omega
  have k5 := h5
  have lt5 : ∀ x ∈ p5, x.block < W.heap.size := by obtain ⟨m, hm⟩ := k5; exact DataW.trod_lt m _ _ _ hm
  obtain ⟨E5, al5, cl5, e5, w5, wa5, wb5, wc5⟩ : ∃ E al cl, v5 = envA al cl E ∧ IsEnv W E al cl ∧ ((∀ k, (E.lists.getD k []).length ≤ 2147483647) → E.ok) ∧ E.lists.length * 24 ≤ 140737488351232 ∧ ∀ k, (E.lists.getD k []).length * 88 ≤ 140737488351232 := by
    obtain ⟨cs, hcs, hcz⟩ := okWide_struct Tryd.underlying49 (hval 5 49 v5 rfl rfl)
    subst hcs
    obtain ⟨fuel, hf⟩ := h5
    have hf' : DataW.trod enc Tryd.prog W 0 (fun _ => true) true fuel 49 cs.toList = some (d5, p5) := hf
    exact open_env (hcz.trans cellsEn) hf' (fun b hb => by
      have h1 := List.all_eq_true.1 hsz b (DataW.weights_mem_each (j := 5) (t := 49) rfl rfl b hb)
      simpa using h1)
  subst e5
  clear hA0
  refine (walk ao0 n0 cap0 L0 wc0 q1 cs1 ai1 ci1 aw1 cw1 ar1 cr1 a2 w2 ao3 cap3 ns3 ao4 cap4 ns4 E5 al5 cl5 W (tabs hL) (tabT hL) (tabN hL) (tabO hL) w0 wr0 ws0 w1 ws1 wc3 wn3 w3 wr3 ws3 wu3 wc4 wn4 w4 wr4 ws4 wu4 w5 wa5 wb5 wc5).mono fun e W' ⟨he, bel⟩ => ?_
  subst he
  exact ⟨_, rfl, _, _, _, [], _, [], hW', trodAll_mk1 (shut_bool Tryd.underlying4 _), (trodAll_cons_mk (Below.trod laidOut (by kernel_rfl) (of_decide_eq_true (by kernel_rfl)) k0 bel lt0) (trodAll_cons_mk (Below.trod laidOut (by kernel_rfl) (of_decide_eq_true (by kernel_rfl)) k1 bel lt1) (trodAll_cons_mk (Below.trod laidOut (by kernel_rfl) (of_decide_eq_true (by kernel_rfl)) k2 bel lt2) (trodAll_cons_mk (Below.trod laidOut (by kernel_rfl) (of_decide_eq_true (by kernel_rfl)) k3 bel lt3) (trodAll_cons_mk (Below.trod laidOut (by kernel_rfl) (of_decide_eq_true (by kernel_rfl)) k4 bel lt4) (trodAll_cons_mk (Below.trod laidOut (by kernel_rfl) (of_decide_eq_true (by kernel_rfl)) k5 bel lt5) trodAll_mk0)))))), rfl, bel.frame _, fun h => by cases h⟩

/-- For the world of the witness: the settled one, the tables holding what their text lays. -/
def put (c : Array Value) : Obj → Obj
  | .cells _ t frozen => .cells c t frozen
  | x => x
theorem laid_met (os : Os) : laidMet Tryd.prog Rows.codeComposesUptoRow.laid ((World.laidAll Tryd.prog os Rows.codeComposesUptoRow.laid).forCall (fun _ _ => 0) ⟨#[], #[.agg #[.slice none 0 0], .agg #[.slice none 0 0, .int .i64 0, .int .i64 0, .slice none 0 0, .int .i64 0, .string ByteArray.empty, .slice none 0 0], .int .i64 0, .slice none 0 0, .slice none 0 0, .agg #[.slice none 0 0, .int .i64 0, .int .i64 0]], []⟩).memory :=
  laidMet_laidAll _ (by kernel_rfl) (by kernel_rfl)
theorem reads (os : Os) {H : Type} (enc : TypeId × Value → H) : ∃ places, DataW.whole enc Tryd.prog ((World.laidAll Tryd.prog os Rows.codeComposesUptoRow.laid).forCall (fun _ _ => 0) ⟨#[], #[.agg #[.slice none 0 0], .agg #[.slice none 0 0, .int .i64 0, .int .i64 0, .slice none 0 0, .int .i64 0, .string ByteArray.empty, .slice none 0 0], .int .i64 0, .slice none 0 0, .slice none 0 0, .agg #[.slice none 0 0, .int .i64 0, .int .i64 0]], []⟩).memory Tryd.f5.params.toList Rows.codeComposesSpec.vars false (#[.agg #[.slice none 0 0], .agg #[.slice none 0 0, .int .i64 0, .int .i64 0, .slice none 0 0, .int .i64 0, .string ByteArray.empty, .slice none 0 0], .int .i64 0, .slice none 0 0, .slice none 0 0, .agg #[.slice none 0 0, .int .i64 0, .int .i64 0]] : Array Value).toList 8 = some ([.agg [.nil], .agg [.nil, .lit (.int .i64 0), .lit (.int .i64 0), .nil, .lit (.int .i64 0), .lit (.string []), .nil], .lit (.int .i64 0), .nil, .nil, .agg [.nil, .lit (.int .i64 0), .lit (.int .i64 0)]], [], places) :=
  ⟨[], by kernel_rfl⟩

set_option maxRecDepth 100000 in
theorem lifted (os : Os) (started : os.Started) (H : Type) (enc : TypeId × Value → H) (F : Stop.Interp) :
    ReturnsInHanded {} Tryd.checked os 5 .any ((Rows.OpenSpec.upto Rows.codeComposesSpec).preRow enc Tryd.prog Tryd.f5 Rows.codeComposesUptoRow.domain false Rows.codeComposesUptoRow.laid) (((Rows.OpenSpec.upto Rows.codeComposesSpec).at F).post enc Tryd.prog Tryd.f5 false true false false) := by
  obtain ⟨places, hx⟩ := reads os enc
  refine returnsInHanded_of_row (C := Tryd.checked) (s := Rows.OpenSpec.upto Rows.codeComposesSpec) own started (by kernel_rfl) Tryd.func5
    ⟨(World.laidAll Tryd.prog os Rows.codeComposesUptoRow.laid), fun _ _ => 0, ⟨#[], #[.agg #[.slice none 0 0], .agg #[.slice none 0 0, .int .i64 0, .int .i64 0, .slice none 0 0, .int .i64 0, .string ByteArray.empty, .slice none 0 0], .int .i64 0, .slice none 0 0, .slice none 0 0, .agg #[.slice none 0 0, .int .i64 0, .int .i64 0]], []⟩, World.laidAll_os _ _ _, World.shaped_of_ZipB (by kernel_rfl) (by kernel_rfl), rfl, (Input.okWide_of_okWideB (show Input.okWideB Tryd.prog ((World.laidAll Tryd.prog os Rows.codeComposesUptoRow.laid).forCall (fun _ _ => 0) ⟨#[], #[.agg #[.slice none 0 0], .agg #[.slice none 0 0, .int .i64 0, .int .i64 0, .slice none 0 0, .int .i64 0, .string ByteArray.empty, .slice none 0 0], .int .i64 0, .slice none 0 0, .slice none 0 0, .agg #[.slice none 0 0, .int .i64 0, .int .i64 0]], []⟩) 5 ⟨#[], #[.agg #[.slice none 0 0], .agg #[.slice none 0 0, .int .i64 0, .int .i64 0, .slice none 0 0, .int .i64 0, .string ByteArray.empty, .slice none 0 0], .int .i64 0, .slice none 0 0, .slice none 0 0, .agg #[.slice none 0 0, .int .i64 0, .int .i64 0]], []⟩ = true by kernel_rfl)).2,
      OpenSpec.preRow_of_cond 8 hx (by kernel_rfl) (fun k hk => by cases hk; kernel_rfl) (by kernel_rfl) (laid_met os),
      by simp only [Assume.holds]; exact ⟨by simp, by simp, by simp, by simp, by simp⟩⟩ ?_
  intro W base args ds gs before hval hW _ hcond hsz hL _ _
  exact contract H enc W base args ds gs before hval hsz (hcond _ rfl) hW hL

theorem said : Rows.CodeComposesUptoSaid :=
  OpenClaim.holds_of_cond 5 Tryd.f5 rfl rfl rfl rfl rfl rfl rfl ⟨rfl, rfl, rfl, rfl, rfl⟩ rfl rfl rfl rfl rfl (by kernel_rfl) Tryd.func5 (by kernel_rfl)
    (of_decide_eq_true (by kernel_rfl)) (by unfold Func.isWrapper; first | (rw [if_pos (by decide +kernel)]; kernel_rfl) | (rw [if_neg (by decide +kernel)]; exact ⟨rfl, rfl⟩))
    (fun os started H enc _ F => by rw [OpenClaim.pre_eq_preRow]; exact lifted os started H enc F)

theorem plain (f : FuncId) (fn : Func) (hf : Tryd.pinned.checked.prog.funcNamed "sluice/sluicelaw7.CodeComposes" = some f) (hfn : Tryd.pinned.checked.prog.funcs[f]? = some fn) :
    false = Tryd.pinned.checked.prog.looks [] ∧ ∀ (j : Nat) t, fn.params[j]? = some t → Tryd.pinned.checked.prog.wantsStandIn t = false := by
  obtain rfl : f = 5 := Option.some.inj ((show Tryd.prog.funcNamed "sluice/sluicelaw7.CodeComposes" = some 5 by kernel_rfl).symm.trans hf) |>.symm
  obtain rfl : fn = Tryd.f5 := (Option.some.inj (Tryd.func5.symm.trans hfn)).symm
  refine ⟨by kernel_rfl, fun j t ht => ?_⟩
  rw [Tryd.params5] at ht
  have hm : t = 24 ∨ t = 31 ∨ t = 3 ∨ t = 28 ∨ t = 49 := by simpa using Array.mem_of_getElem? ht
  rcases hm with rfl | rfl | rfl | rfl | rfl
  · exact (show Tryd.prog.wantsStandIn 24 = false by kernel_rfl)
  · exact (show Tryd.prog.wantsStandIn 31 = false by kernel_rfl)
  · exact (show Tryd.prog.wantsStandIn 3 = false by kernel_rfl)
  · exact (show Tryd.prog.wantsStandIn 28 = false by kernel_rfl)
  · exact (show Tryd.prog.wantsStandIn 49 = false by kernel_rfl)

end Go.Proofs.YtbcomgfdbanjlaaDoor.codeComposes
namespace Go.Proofs.YtbcomgfdbanjlaaDoor
theorem codeComposes_holds : Rows.CodeComposesUptoCardSaid :=
  Claim7.holds_tied_plain_at .later [] _ _ _ _ codeComposes.said (fun _ h => by cases h) (by kernel_rfl) (fun _ h => by cases h) codeComposesUpto_row_tie rfl ⟨rfl, rfl⟩ (by kernel_rfl) rfl codeComposes.plain (by kernel_rfl)
#print axioms codeComposes_holds
end Go.Proofs.YtbcomgfdbanjlaaDoor
