/- What check.Check comes to. -/
import Derived.Test.YtlejhococjlijaaGreatDoorCkm
import Derived.Deep.CutRange
namespace Go.Proofs.YtlejhococjlijaaGreatDoor
open Go.RowKit Go.BigFrame
set_option linter.unusedVariables false
set_option linter.unusedSimpArgs false

theorem itemF_in (l : List It) : ∀ (k : Nat) (s : ByteArray) (j : Int), itemF l k s = some j → 0 ≤ j ∧ j < (k : Int)
  | 0, s, j, h => by simp [itemF] at h
  | k + 1, s, j, h => by
    unfold itemF at h
    cases hk : itemF l k s with
    | some i =>
      rw [hk] at h
      simp only [Option.some.injEq] at h
      subst h
      have := itemF_in l k s i hk
      omega
    | none =>
      rw [hk] at h
      simp only at h
      split at h
      · simp only [Option.some.injEq] at h; subst h; omega
      · cases h
theorem tree_in {t : List Nd} (h : treeB t = true) : InT t := fun k hk => by
  obtain ⟨_, _, _, KN⟩ := tree_bs h
  have hle := fun i (hi : i < t.length) => (KN i hi).le
  rcases (KN k hk).how with ⟨_, _, h1, h2⟩ | ⟨_, h0, h1, h2, _⟩ | ⟨_, h0, h3, h2, h1, _⟩
  · rw [h1, h2]; omega
  · rw [h1, h2]; omega
  · rw [h1, h2]
    have := hle (k - 1) (by omega)
    omega
/-- The seven rules, in their order. -/
def rulE (L : List Ty) (q : Qy) (M : ByteArray → Option Int) : Nat → Fl
  | 0 => eiE L q.items M
  | 1 => acE q.items
  | 2 => wrE (lookE L q.items M mayA q.wh) q.wh
  | 3 => cjE q.items M q.wh
  | 4 => wdE q.within
  | 5 => ptE L q.items q.by_
  | _ => rsE L q.items M q.ret
def seqE (r : Nat → Fl) : Fl := match firstAt (fun k => (r k).code) 7 0 with
  | some k => r k
  | none => noFl
def chkE (L : List Ty) (q : Qy) : Fl := if schE L ≠ 0 then ⟨schE L, 0, 0, 0⟩ else if shapB q = false then ⟨50, 0, 0, 0⟩ else if 10 < q.items.length then ⟨60, 1, 10, 0⟩ else seqE (rulE L q (itemF q.items q.items.length))
theorem shap_in {q : Qy} (h : shapB q = true) : InT q.wh ∧ ∀ k, InT (q.ret.getD k []) := by
  unfold shapB at h
  simp only [Bool.and_eq_true, Bool.or_eq_true, decide_eq_true_eq] at h
  obtain ⟨_, _, _, _, hw, _, _, hr⟩ := h
  refine ⟨?_, fun k => ?_⟩
  · rcases hw with hw | hw
    · intro k hk; omega
    · exact tree_in hw
  · by_cases hk : k < q.ret.length
    · rw [List.all_eq_true] at hr
      refine tree_in (hr _ ?_)
      rw [List.getD_eq_getElem?_getD, List.getElem?_eq_getElem hk]
      exact List.getElem_mem hk
    · rw [List.getD_eq_getElem?_getD, List.getElem?_eq_none (by omega)]
      intro j hj
      simp at hj
theorem sets9 {u : World} {b : Nat} {c0 c1 c2 c3 c4 c5 c6 c7 c8 : Value} {t : TypeId} (h : Bk u b #[c0, c1, c2, c3, c4, c5, c6, c7, c8] t) (v0 v1 v2 v3 v4 v5 v6 v7 v8 : Value) : Bk (((((((((u.setCell ⟨b, 0, none⟩ v0).setCell ⟨b, 1, none⟩ v1).setCell ⟨b, 2, none⟩ v2).setCell ⟨b, 3, none⟩ v3).setCell ⟨b, 4, none⟩ v4).setCell ⟨b, 5, none⟩ v5).setCell ⟨b, 6, none⟩ v6).setCell ⟨b, 7, none⟩ v7).setCell ⟨b, 8, none⟩ v8) b #[v0, v1, v2, v3, v4, v5, v6, v7, v8] t := by
  have := (((((((((h.set 0 v0).set 1 v1).set 2 v2).set 3 v3).set 4 v4).set 5 v5).set 6 v6).set 7 v7).set 8 v8)
  simpa using this
theorem buts9 (u : World) (b : Nat) (v0 v1 v2 v3 v4 v5 v6 v7 v8 : Value) : But b u (((((((((u.setCell ⟨b, 0, none⟩ v0).setCell ⟨b, 1, none⟩ v1).setCell ⟨b, 2, none⟩ v2).setCell ⟨b, 3, none⟩ v3).setCell ⟨b, 4, none⟩ v4).setCell ⟨b, 5, none⟩ v5).setCell ⟨b, 6, none⟩ v6).setCell ⟨b, 7, none⟩ v7).setCell ⟨b, 8, none⟩ v8) := ((((((((((But.refl b u).set 0 v0).set 1 v1).set 2 v2).set 3 v3).set 4 v4).set 5 v5).set 6 v6).set 7 v7).set 8 v8)
theorem gsets9 {a u : World} {b : Nat} (G : Below a.heap.size a u) (hb : a.heap.size ≤ b) (v0 v1 v2 v3 v4 v5 v6 v7 v8 : Value) : Below a.heap.size a (((((((((u.setCell ⟨b, 0, none⟩ v0).setCell ⟨b, 1, none⟩ v1).setCell ⟨b, 2, none⟩ v2).setCell ⟨b, 3, none⟩ v3).setCell ⟨b, 4, none⟩ v4).setCell ⟨b, 5, none⟩ v5).setCell ⟨b, 6, none⟩ v6).setCell ⟨b, 7, none⟩ v7).setCell ⟨b, 8, none⟩ v8) := gset (gset (gset (gset (gset (gset (gset (gset (gset (G) (p := ⟨b, 0, none⟩) hb v0) (p := ⟨b, 1, none⟩) hb v1) (p := ⟨b, 2, none⟩) hb v2) (p := ⟨b, 3, none⟩) hb v3) (p := ⟨b, 4, none⟩) hb v4) (p := ⟨b, 5, none⟩) hb v5) (p := ⟨b, 6, none⟩) hb v6) (p := ⟨b, 7, none⟩) hb v7) (p := ⟨b, 8, none⟩) hb v8
/-- The checker in a local. -/
structure CkR (L : List Ty) (q : Qy) (sa : Option Addr) (sc : Nat) (ai : Option Addr) (ci : Nat) (aw : Option Addr) (cw : Nat) (ar : Option Addr) (cr : Nat) (X wx : World) (s : Value) : Prop where
  ex : ∃ b bm, s = .pointer (some ⟨b, 0, none⟩) ∧ X.heap.size ≤ b ∧ Bk wx b #[.slice sa L.length sc, .slice ai q.items.length ci, .int .i64 q.mode, .int .i64 q.after, .slice aw q.wh.length cw, .int .i64 q.within, .string q.by_, .slice ar q.ret.length cr, .map (some bm)] 71 ∧ MpAt wx bm q.items.length (itemF q.items q.items.length) ∧ Below X.heap.size X wx

set_option maxRecDepth 100000 in
set_option maxHeartbeats 32000000 in
theorem check_any (L : List Ty) (q : Qy) (hq : q.fit) (sa : Option Addr) (sc : Nat) (cs : Array Value) (ai : Option Addr) (ci : Nat) (aw : Option Addr) (cw : Nat) (ar : Option Addr) (cr : Nat) (w : World) (K : KwAt w) (A : IsTypes w sa L.length L) (hsc : L.length ≤ sc) (IQ : IsQ w q cs ai ci aw cw ar cr) :
    Calls Tryz.prog 13 #[.agg #[.slice sa L.length sc], .agg cs] w fun e w' => e = .returned (flV (chkE L q)) ∧ Below w.heap.size w w' := by
  have hn := hq.n
  have S0 := ((Bk.new w #[.slice sa L.length sc] 34).alloc (.cells #[.slice ai q.items.length ci, .int .i64 q.mode, .int .i64 q.after, .slice aw q.wh.length cw, .int .i64 q.within, .string q.by_, .slice ar q.ret.length cr] 40)).alloc (.cells #[.int .i64 0, .int .i64 0, .int .i64 0, .int .i64 0] 45)
  have Q0 := (Bk.newE (w := w.alloc (.cells #[.slice sa L.length sc] 34)) (g := w.heap.size + 1) (by simp) #[.slice ai q.items.length ci, .int .i64 q.mode, .int .i64 q.after, .slice aw q.wh.length cw, .int .i64 q.within, .string q.by_, .slice ar q.ret.length cr] 40).alloc (.cells #[.int .i64 0, .int .i64 0, .int .i64 0, .int .i64 0] 45)
  have F0 := Bk.newE (w := (w.alloc (.cells #[.slice sa L.length sc] 34)).alloc (.cells #[.slice ai q.items.length ci, .int .i64 q.mode, .int .i64 q.after, .slice aw q.wh.length cw, .int .i64 q.within, .string q.by_, .slice ar q.ret.length cr] 40)) (g := w.heap.size + 2) (by simp) #[.int .i64 0, .int .i64 0, .int .i64 0, .int .i64 0] 45
  have B0 := galloc (galloc (galloc (Below.refl w.heap.size w) (.cells #[.slice sa L.length sc] 34)) (.cells #[.slice ai q.items.length ci, .int .i64 q.mode, .int .i64 q.after, .slice aw q.wh.length cw, .int .i64 q.within, .string q.by_, .slice ar q.ret.length cr] 40)) (.cells #[.int .i64 0, .int .i64 0, .int .i64 0, .int .i64 0] 45)
  have cS := checkSchema_any sa L.length sc L _ (A.keep B0) hsc (K.keep B0)
  have hcs := IQ.eq
  subst hcs
  have cSh := fun Y (G : Below w.heap.size w Y) => shaped_any q hq _ ai ci aw cw ar cr Y (K.keep G) (IQ.keep G)
  obtain ⟨rf, hrr⟩ : ∃ rf, chkE L q = rf := ⟨_, rfl⟩
  rw [hrr]
  have HR := show Hid (_ = _) from hrr
  clear hrr
  go_enter Tryz.func13, Tryz.ntmps13
  go_upto_region 1 with fail
  generalize ((w.alloc (.cells #[.slice sa L.length sc] 34)).alloc (.cells #[.slice ai q.items.length ci, .int .i64 q.mode, .int .i64 q.after, .slice aw q.wh.length cw, .int .i64 q.within, .string q.by_, .slice ar q.ret.length cr] 40)).alloc (.cells #[.int .i64 0, .int .i64 0, .int .i64 0, .int .i64 0] 45) = V at *
  have s0 : V.cell? ⟨w.heap.size, 0, none⟩ = some (.slice sa L.length sc) := cell_of_row V w.heap.size 0 _ _ _ S0
  by_cases hs : schE L = 0
  rotate_left
  · have e : (⟨schE L, 0, 0, 0⟩ : Fl) = rf := by rw [← HR.out]; unfold chkE; rw [if_pos hs]
    obtain ⟨z, hz⟩ : ∃ z, schE L = z := ⟨_, rfl⟩
    rw [hz] at e cS hs
    subst e
    have d : (z != 0) = true := by simpa using hs
    clear HR hs hz
    go_wp2_with (go_at_call 25; (with_reducible refine cS.mono ?_); rintro _ u ⟨rfl, gu⟩; have FU := F0.keep gu; obtain ⟨g0, g1, g2, g3⟩ := FU.at4; have gf := FU.free)
    refine bodyPost_ret (v := .agg #[.int .i64 z, .int .i64 0, .int .i64 0, .int .i64 0]) (by simp [results, Tryz.results13, go_sem, g0, g1, g2, g3]) rfl ⟨rfl, ?_⟩
    exact gset (gset (gset (gset (gtrans B0 gu) (by first | (simp; done) | (simp; omega)) _) (by first | (simp; done) | (simp; omega)) _) (by first | (simp; done) | (simp; omega)) _) (by first | (simp; done) | (simp; omega)) _
  rw [hs] at cS
  by_cases hh : shapB q = true
  rotate_left
  · have hb : shapB q = false := by simpa using hh
    have e : (⟨50, 0, 0, 0⟩ : Fl) = rf := by rw [← HR.out]; unfold chkE; rw [if_neg (by simpa using hs), if_pos hb]
    subst e
    rw [hb] at cSh
    clear HR hs hh hb
    go_wp2_with (first
      | (go_at_call 25; (with_reducible refine cS.mono ?_); rintro _ u ⟨rfl, gu⟩; have BU := gtrans B0 gu; obtain ⟨y0, y1, y2, y3, y4, y5, y6⟩ := (Q0.keep gu).at7)
      | (go_at_call 26; (with_reducible refine (cSh _ BU).mono ?_); rintro _ v ⟨rfl, gv⟩; have FU := F0.keep (gtrans gu gv); obtain ⟨g0, g1, g2, g3⟩ := FU.at4; have gf := FU.free))
    refine bodyPost_ret (v := .agg #[.int .i64 50, .int .i64 0, .int .i64 0, .int .i64 0]) (by simp [results, Tryz.results13, go_sem, g0, g1, g2, g3]) rfl ⟨rfl, ?_⟩
    exact gset (gset (gset (gset (gtrans BU gv) (by first | (simp; done) | (simp; omega)) _) (by first | (simp; done) | (simp; omega)) _) (by first | (simp; done) | (simp; omega)) _) (by first | (simp; done) | (simp; omega)) _
  rw [hh] at cSh
  obtain ⟨hiw, hir⟩ := shap_in hh
  have hM : MapsIn (itemF q.items q.items.length) q.items.length := fun s j h => itemF_in _ _ s j h
  by_cases h10 : 10 < q.items.length
  · have h10i : (10 : Int) < (q.items.length : Int) := by omega
    have e : (⟨60, 1, 10, 0⟩ : Fl) = rf := by rw [← HR.out]; unfold chkE; rw [if_neg (by simpa using hs), if_neg (by rw [hh]; simp), if_pos h10]
    subst e
    clear HR hs hh
    go_wp2_with (first
      | (go_at_call 25; (with_reducible refine cS.mono ?_); rintro _ u ⟨rfl, gu⟩; have BU := gtrans B0 gu; obtain ⟨y0, y1, y2, y3, y4, y5, y6⟩ := (Q0.keep gu).at7)
      | (go_at_call 26; (with_reducible refine (cSh _ BU).mono ?_); rintro _ v ⟨rfl, gv⟩; obtain ⟨z0, z1, z2, z3, z4, z5, z6⟩ := (Q0.keep (gtrans gu gv)).at7; have FU := F0.keep (gtrans gu gv); obtain ⟨g0, g1, g2, g3⟩ := FU.at4; have gf := FU.free))
    refine bodyPost_ret (v := .agg #[.int .i64 60, .int .i64 1, .int .i64 10, .int .i64 0]) (by simp [results, Tryz.results13, go_sem, g0, g1, g2, g3]) rfl ⟨rfl, ?_⟩
    exact gset (gset (gset (gset (gtrans BU gv) (by first | (simp; done) | (simp; omega)) _) (by first | (simp; done) | (simp; omega)) _) (by first | (simp; done) | (simp; omega)) _) (by first | (simp; done) | (simp; omega)) _
  have h10i : ¬ (10 : Int) < (q.items.length : Int) := by omega
  have HR1 : Hid (seqE (rulE L q (itemF q.items q.items.length)) = rf) := by
    show _ = _
    rw [← HR.out]; unfold chkE; rw [if_neg (by simpa using hs), if_neg (by rw [hh]; simp), if_neg h10]
  clear HR hs hh h10
  go_upto_region 8 with (first
    | (go_at_call 25; (with_reducible refine cS.mono ?_); rintro _ u ⟨rfl, gu⟩; have BU := gtrans B0 gu; obtain ⟨y0, y1, y2, y3, y4, y5, y6⟩ := (Q0.keep gu).at7)
    | (go_at_call 26; (with_reducible refine (cSh _ BU).mono ?_); rintro _ v ⟨rfl, gv⟩; obtain ⟨z0, z1, z2, z3, z4, z5, z6⟩ := (Q0.keep (gtrans gu gv)).at7))
  have gX := gtrans gu gv
  have S1 := S0.keep gX
  have Q1 := Q0.keep gX
  have F1 := F0.keep gX
  have B1 := gtrans B0 gX
  clear S0 Q0 F0 B0 cS cSh gu gv gX s0 y0 y1 y2 y3 y4 y5 y6 z0 z1 z2 z3 z4 z5 z6 BU
  have cIt := fun Y (G : Below v.heap.size v Y) => itemsOf_any q hq _ ai ci aw cw ar cr Y (IQ.keep (gtrans B1 G))
  have hSn : ∀ Y, Below v.heap.size v Y → Y.cell? ⟨w.heap.size, 0, none⟩ = some (.slice sa L.length sc) ∧ Y.cell? ⟨w.heap.size + 1, 0, none⟩ = some (.slice ai q.items.length ci) ∧ Y.cell? ⟨w.heap.size + 1, 1, none⟩ = some (.int .i64 q.mode) ∧ Y.cell? ⟨w.heap.size + 1, 2, none⟩ = some (.int .i64 q.after) ∧ Y.cell? ⟨w.heap.size + 1, 3, none⟩ = some (.slice aw q.wh.length cw) ∧ Y.cell? ⟨w.heap.size + 1, 4, none⟩ = some (.int .i64 q.within) ∧ Y.cell? ⟨w.heap.size + 1, 5, none⟩ = some (.string q.by_) ∧ Y.cell? ⟨w.heap.size + 1, 6, none⟩ = some (.slice ar q.ret.length cr) := fun Y G => ⟨cell_of_row Y w.heap.size 0 _ _ _ (S1.keep G), (Q1.keep G).at7⟩
  have Gd := (Below.refl v.heap.size v).drew
  have hSd := hSn _ Gd
  have Ga := (galloc (Below.refl v.heap.size v) (.cells #[.slice none 0 0, .slice none 0 0, .int .i64 0, .int .i64 0, .slice none 0 0, .int .i64 0, .string ⟨#[]⟩, .slice none 0 0, .map none] 71)).drew
  have hSa := hSn _ Ga
  have ZA : Bk (v.alloc (.cells #[.slice none 0 0, .slice none 0 0, .int .i64 0, .int .i64 0, .slice none 0 0, .int .i64 0, .string ⟨#[]⟩, .slice none 0 0, .map none] 71)).drew v.heap.size #[.slice none 0 0, .slice none 0 0, .int .i64 0, .int .i64 0, .slice none 0 0, .int .i64 0, .string ⟨#[]⟩, .slice none 0 0, .map none] 71 := Bk.new v #[.slice none 0 0, .slice none 0 0, .int .i64 0, .int .i64 0, .slice none 0 0, .int .i64 0, .string ⟨#[]⟩, .slice none 0 0, .map none] 71
  go_cut [6] from 25 to 30 (fun s wx => CkR L q sa sc ai ci aw cw ar cr v wx s)
  case first =>
    go_region_held3 (fun Y : World => Y.cell? ⟨w.heap.size, 0, none⟩ = some (.slice sa L.length sc) ∧ Y.cell? ⟨w.heap.size + 1, 0, none⟩ = some (.slice ai q.items.length ci) ∧ Y.cell? ⟨w.heap.size + 1, 1, none⟩ = some (.int .i64 q.mode) ∧ Y.cell? ⟨w.heap.size + 1, 2, none⟩ = some (.int .i64 q.after) ∧ Y.cell? ⟨w.heap.size + 1, 3, none⟩ = some (.slice aw q.wh.length cw) ∧ Y.cell? ⟨w.heap.size + 1, 4, none⟩ = some (.int .i64 q.within) ∧ Y.cell? ⟨w.heap.size + 1, 5, none⟩ = some (.string q.by_) ∧ Y.cell? ⟨w.heap.size + 1, 6, none⟩ = some (.slice ar q.ret.length cr)) (first | (with_reducible exact hSd) | (with_reducible exact hSa) | (with_reducible exact hSu) | (with_reducible exact hSua) | (with_reducible exact hS9) | go_keep) (first
      | (go_at_call 27; (with_reducible refine (cIt _ Gd).mono ?_); rintro _ u ⟨bm, rfl, hbm, MU, gt⟩; have GU := gtrans Gd gt; have hSu := hSn _ GU; have hSua := hSn _ (galloc GU (.cells #[.slice none 0 0, .slice none 0 0, .int .i64 0, .int .i64 0, .slice none 0 0, .int .i64 0, .string ⟨#[]⟩, .slice none 0 0, .map none] 71)); have zu : v.heap.size ≤ u.heap.size := GU.size; have G9 := galloc GU (.cells #[.slice sa L.length sc, .slice ai q.items.length ci, .int .i64 q.mode, .int .i64 q.after, .slice aw q.wh.length cw, .int .i64 q.within, .string q.by_, .slice ar q.ret.length cr, .map (some bm)] 71); have hS9 := hSn _ G9; have Z9 := Bk.new u #[.slice sa L.length sc, .slice ai q.items.length ci, .int .i64 q.mode, .int .i64 q.after, .slice aw q.wh.length cw, .int .i64 q.within, .string q.by_, .slice ar q.ret.length cr, .map (some bm)] 71; have N9 := MU.keep (galloc (Below.refl u.heap.size u) (.cells #[.slice sa L.length sc, .slice ai q.items.length ci, .int .i64 q.mode, .int .i64 q.after, .slice aw q.wh.length cw, .int .i64 q.within, .string q.by_, .slice ar q.ret.length cr, .map (some bm)] 71)); have fin : CkR L q sa sc ai ci aw cw ar cr v _ (.pointer (some ⟨u.heap.size, 0, none⟩)) := ⟨⟨u.heap.size, bm, rfl, zu, Z9, N9, G9⟩⟩)
      | (go_at_call 27; (with_reducible refine (cIt _ Ga).mono ?_); rintro _ u ⟨bm, rfl, hbm, MU, gt⟩; have GU := gtrans Ga gt; have hSu := hSn _ GU; have ZU := ZA.keep gt; obtain ⟨zu0, zu1, zu2, zu3, zu4, zu5, zu6, zu7, zu8⟩ := ZU.at9; have zuf := ZU.free; have zu : v.heap.size ≤ v.heap.size := Nat.le_refl _; have G9 := gsets9 (b := v.heap.size) GU zu (.slice sa L.length sc) (.slice ai q.items.length ci) (.int .i64 q.mode) (.int .i64 q.after) (.slice aw q.wh.length cw) (.int .i64 q.within) (.string q.by_) (.slice ar q.ret.length cr) (.map (some bm)); have hS9 := hSn _ G9; have Z9 := sets9 ZU (.slice sa L.length sc) (.slice ai q.items.length ci) (.int .i64 q.mode) (.int .i64 q.after) (.slice aw q.wh.length cw) (.int .i64 q.within) (.string q.by_) (.slice ar q.ret.length cr) (.map (some bm)); have N9 := MU.of_block ((buts9 u v.heap.size (.slice sa L.length sc) (.slice ai q.items.length ci) (.int .i64 q.mode) (.int .i64 q.after) (.slice aw q.wh.length cw) (.int .i64 q.within) (.string q.by_) (.slice ar q.ret.length cr) (.map (some bm))) bm (fun e => by simp at hbm; omega)); have fin : CkR L q sa sc ai ci aw cw ar cr v _ (.pointer (some ⟨v.heap.size, 0, none⟩)) := ⟨⟨v.heap.size, bm, rfl, zu, Z9, N9, G9⟩⟩))
    all_goals
      go_wp2
      go_meet
      case rel => exact fin
  case rest =>
    obtain ⟨⟨b6, bm, rfl, hb6, C6, M6, G6⟩⟩ := hcut
    have F2 := F1.keep G6
    have B2 := gtrans B1 G6
    have IQ2 := IQ.keep B2
    have A2 := A.keep B2
    have K2 := K.keep B2
    clear hSn hSd hSa Ga Gd cIt ZA F1 B1 G6 S1 Q1
    obtain ⟨c0, c1, c2, c3, c4, c5, c6, c7, c8⟩ := C6.at9
    have T3 := Bk.new wc #[.func (.func 28) #[.agg #[.slice sa L.length sc, .slice ai q.items.length ci, .int .i64 q.mode, .int .i64 q.after, .slice aw q.wh.length cw, .int .i64 q.within, .string q.by_, .slice ar q.ret.length cr, .map (some bm)]] #[], .func (.func 29) #[.agg #[.slice sa L.length sc, .slice ai q.items.length ci, .int .i64 q.mode, .int .i64 q.after, .slice aw q.wh.length cw, .int .i64 q.within, .string q.by_, .slice ar q.ret.length cr, .map (some bm)]] #[], .func (.func 30) #[.agg #[.slice sa L.length sc, .slice ai q.items.length ci, .int .i64 q.mode, .int .i64 q.after, .slice aw q.wh.length cw, .int .i64 q.within, .string q.by_, .slice ar q.ret.length cr, .map (some bm)]] #[], .func (.func 31) #[.agg #[.slice sa L.length sc, .slice ai q.items.length ci, .int .i64 q.mode, .int .i64 q.after, .slice aw q.wh.length cw, .int .i64 q.within, .string q.by_, .slice ar q.ret.length cr, .map (some bm)]] #[], .func (.func 32) #[.agg #[.slice sa L.length sc, .slice ai q.items.length ci, .int .i64 q.mode, .int .i64 q.after, .slice aw q.wh.length cw, .int .i64 q.within, .string q.by_, .slice ar q.ret.length cr, .map (some bm)]] #[], .func (.func 33) #[.agg #[.slice sa L.length sc, .slice ai q.items.length ci, .int .i64 q.mode, .int .i64 q.after, .slice aw q.wh.length cw, .int .i64 q.within, .string q.by_, .slice ar q.ret.length cr, .map (some bm)]] #[], .func (.func 34) #[.agg #[.slice sa L.length sc, .slice ai q.items.length ci, .int .i64 q.mode, .int .i64 q.after, .slice aw q.wh.length cw, .int .i64 q.within, .string q.by_, .slice ar q.ret.length cr, .map (some bm)]] #[]] 72
    have gT := galloc (Below.refl wc.heap.size wc) (.cells #[.func (.func 28) #[.agg #[.slice sa L.length sc, .slice ai q.items.length ci, .int .i64 q.mode, .int .i64 q.after, .slice aw q.wh.length cw, .int .i64 q.within, .string q.by_, .slice ar q.ret.length cr, .map (some bm)]] #[], .func (.func 29) #[.agg #[.slice sa L.length sc, .slice ai q.items.length ci, .int .i64 q.mode, .int .i64 q.after, .slice aw q.wh.length cw, .int .i64 q.within, .string q.by_, .slice ar q.ret.length cr, .map (some bm)]] #[], .func (.func 30) #[.agg #[.slice sa L.length sc, .slice ai q.items.length ci, .int .i64 q.mode, .int .i64 q.after, .slice aw q.wh.length cw, .int .i64 q.within, .string q.by_, .slice ar q.ret.length cr, .map (some bm)]] #[], .func (.func 31) #[.agg #[.slice sa L.length sc, .slice ai q.items.length ci, .int .i64 q.mode, .int .i64 q.after, .slice aw q.wh.length cw, .int .i64 q.within, .string q.by_, .slice ar q.ret.length cr, .map (some bm)]] #[], .func (.func 32) #[.agg #[.slice sa L.length sc, .slice ai q.items.length ci, .int .i64 q.mode, .int .i64 q.after, .slice aw q.wh.length cw, .int .i64 q.within, .string q.by_, .slice ar q.ret.length cr, .map (some bm)]] #[], .func (.func 33) #[.agg #[.slice sa L.length sc, .slice ai q.items.length ci, .int .i64 q.mode, .int .i64 q.after, .slice aw q.wh.length cw, .int .i64 q.within, .string q.by_, .slice ar q.ret.length cr, .map (some bm)]] #[], .func (.func 34) #[.agg #[.slice sa L.length sc, .slice ai q.items.length ci, .int .i64 q.mode, .int .i64 q.after, .slice aw q.wh.length cw, .int .i64 q.within, .string q.by_, .slice ar q.ret.length cr, .map (some bm)]] #[]] 72)
    have F3 := F2.keep gT
    have B3 := gtrans B2 gT
    have IQ3 := IQ2.keep gT
    have A3 := A2.keep gT
    have K3 := K2.keep gT
    have M3 := M6.keep gT
    clear F2 B2 IQ2 A2 K2 M6
    go_upto_region 10 with fail
    generalize wc.alloc (.cells #[.func (.func 28) #[.agg #[.slice sa L.length sc, .slice ai q.items.length ci, .int .i64 q.mode, .int .i64 q.after, .slice aw q.wh.length cw, .int .i64 q.within, .string q.by_, .slice ar q.ret.length cr, .map (some bm)]] #[], .func (.func 29) #[.agg #[.slice sa L.length sc, .slice ai q.items.length ci, .int .i64 q.mode, .int .i64 q.after, .slice aw q.wh.length cw, .int .i64 q.within, .string q.by_, .slice ar q.ret.length cr, .map (some bm)]] #[], .func (.func 30) #[.agg #[.slice sa L.length sc, .slice ai q.items.length ci, .int .i64 q.mode, .int .i64 q.after, .slice aw q.wh.length cw, .int .i64 q.within, .string q.by_, .slice ar q.ret.length cr, .map (some bm)]] #[], .func (.func 31) #[.agg #[.slice sa L.length sc, .slice ai q.items.length ci, .int .i64 q.mode, .int .i64 q.after, .slice aw q.wh.length cw, .int .i64 q.within, .string q.by_, .slice ar q.ret.length cr, .map (some bm)]] #[], .func (.func 32) #[.agg #[.slice sa L.length sc, .slice ai q.items.length ci, .int .i64 q.mode, .int .i64 q.after, .slice aw q.wh.length cw, .int .i64 q.within, .string q.by_, .slice ar q.ret.length cr, .map (some bm)]] #[], .func (.func 33) #[.agg #[.slice sa L.length sc, .slice ai q.items.length ci, .int .i64 q.mode, .int .i64 q.after, .slice aw q.wh.length cw, .int .i64 q.within, .string q.by_, .slice ar q.ret.length cr, .map (some bm)]] #[], .func (.func 34) #[.agg #[.slice sa L.length sc, .slice ai q.items.length ci, .int .i64 q.mode, .int .i64 q.after, .slice aw q.wh.length cw, .int .i64 q.within, .string q.by_, .slice ar q.ret.length cr, .map (some bm)]] #[]] 72) = X at *
    generalize wc.heap.size = bt at *
    clear gT
    have cr0 : ∀ Y, Below X.heap.size X Y → Calls Tryz.prog 28 #[.agg #[.slice sa L.length sc, .slice ai q.items.length ci, .int .i64 q.mode, .int .i64 q.after, .slice aw q.wh.length cw, .int .i64 q.within, .string q.by_, .slice ar q.ret.length cr, .map (some bm)]] Y fun e w' => e = .returned (flV (rulE L q (itemF q.items q.items.length) 0)) ∧ Below Y.heap.size Y w' := fun Y G => eachItem_any L q.items hn hq.its (itemF q.items q.items.length) hM sa L.length sc ai ci q.mode q.after aw q.wh.length cw q.within q.by_ ar q.ret.length cr bm q.items.length Y (A3.keep G) (IQ3.its.keep G) (M3.keep G)
    have cr1 : ∀ Y, Below X.heap.size X Y → Calls Tryz.prog 29 #[.agg #[.slice sa L.length sc, .slice ai q.items.length ci, .int .i64 q.mode, .int .i64 q.after, .slice aw q.wh.length cw, .int .i64 q.within, .string q.by_, .slice ar q.ret.length cr, .map (some bm)]] Y fun e w' => e = .returned (flV (rulE L q (itemF q.items q.items.length) 1)) ∧ Below Y.heap.size Y w' := fun Y G => anyComp_any L q.items hn hq.its (itemF q.items q.items.length) hM sa L.length sc ai ci q.mode q.after aw q.wh.length cw q.within q.by_ ar q.ret.length cr bm q.items.length Y (IQ3.its.keep G)
    have cr2 : ∀ Y, Below X.heap.size X Y → Calls Tryz.prog 30 #[.agg #[.slice sa L.length sc, .slice ai q.items.length ci, .int .i64 q.mode, .int .i64 q.after, .slice aw q.wh.length cw, .int .i64 q.within, .string q.by_, .slice ar q.ret.length cr, .map (some bm)]] Y fun e w' => e = .returned (flV (rulE L q (itemF q.items q.items.length) 2)) ∧ Below Y.heap.size Y w' := fun Y G => where_any L q.items hn hq.its (itemF q.items q.items.length) hM sa L.length sc ai ci q.mode q.after aw cw q.within q.by_ ar q.ret.length cr bm q.items.length q.wh hq.wh hiw Y (A3.keep G) (IQ3.its.keep G) (IQ3.wh.keep G) (M3.keep G)
    have cr3 : ∀ Y, Below X.heap.size X Y → Calls Tryz.prog 31 #[.agg #[.slice sa L.length sc, .slice ai q.items.length ci, .int .i64 q.mode, .int .i64 q.after, .slice aw q.wh.length cw, .int .i64 q.within, .string q.by_, .slice ar q.ret.length cr, .map (some bm)]] Y fun e w' => e = .returned (flV (rulE L q (itemF q.items q.items.length) 3)) ∧ Below Y.heap.size Y w' := fun Y G => conjRule_any L q.items hn hq.its (itemF q.items q.items.length) hM sa L.length sc ai ci q.mode q.after aw cw q.within q.by_ ar q.ret.length cr bm q.items.length q.wh hq.wh IQ3.sw Y (K3.keep G) (IQ3.its.keep G) (IQ3.wh.keep G) (M3.keep G)
    have cr4 : ∀ Y, Below X.heap.size X Y → Calls Tryz.prog 32 #[.agg #[.slice sa L.length sc, .slice ai q.items.length ci, .int .i64 q.mode, .int .i64 q.after, .slice aw q.wh.length cw, .int .i64 q.within, .string q.by_, .slice ar q.ret.length cr, .map (some bm)]] Y fun e w' => e = .returned (flV (rulE L q (itemF q.items q.items.length) 4)) ∧ Below Y.heap.size Y w' := fun Y G => window_any L q.items hn hq.its (itemF q.items q.items.length) hM sa L.length sc ai ci q.mode q.after aw q.wh.length cw q.within q.by_ ar q.ret.length cr bm q.items.length Y
    have cr5 : ∀ Y, Below X.heap.size X Y → Calls Tryz.prog 33 #[.agg #[.slice sa L.length sc, .slice ai q.items.length ci, .int .i64 q.mode, .int .i64 q.after, .slice aw q.wh.length cw, .int .i64 q.within, .string q.by_, .slice ar q.ret.length cr, .map (some bm)]] Y fun e w' => e = .returned (flV (rulE L q (itemF q.items q.items.length) 5)) ∧ Below Y.heap.size Y w' := fun Y G => partition_any L q.items hn hq.its (itemF q.items q.items.length) hM sa L.length sc ai ci q.mode q.after aw q.wh.length cw q.within q.by_ ar q.ret.length cr bm q.items.length Y (A3.keep G) (IQ3.its.keep G)
    have cr6 : ∀ Y, Below X.heap.size X Y → Calls Tryz.prog 34 #[.agg #[.slice sa L.length sc, .slice ai q.items.length ci, .int .i64 q.mode, .int .i64 q.after, .slice aw q.wh.length cw, .int .i64 q.within, .string q.by_, .slice ar q.ret.length cr, .map (some bm)]] Y fun e w' => e = .returned (flV (rulE L q (itemF q.items q.items.length) 6)) ∧ Below Y.heap.size Y w' := fun Y G => results_any L q.items hn hq.its (itemF q.items q.items.length) hM sa L.length sc ai ci q.mode q.after aw q.wh.length cw q.within q.by_ ar cr bm q.items.length q.ret hq.r hq.ret hir Y (A3.keep G) (IQ3.its.keep G) (IQ3.ret.keep G) (M3.keep G)
    go_loopw [8, 9, 46] (fun _ _ x wr => (∃ k : Nat, k ≤ 7 ∧ x = .int .i64 k ∧ firstAt (fun k => (rulE L q (itemF q.items q.items.length) k).code) 7 0 = firstAt (fun k => (rulE L q (itemF q.items q.items.length) k).code) 7 k) ∧ Below X.heap.size X wr) (fun _ _ x _ => 7 - (intOf x).toNat)
    case atStart => exact ⟨⟨0, Nat.zero_le _, rfl, rfl⟩, Below.refl _ _⟩
    case round =>
      obtain ⟨⟨k, hk, rfl, hd⟩, G⟩ := hrel
      obtain ⟨t0, t1, t2, t3, t4, t5, t6⟩ := (T3.keep G).at7
      have FW := F3.keep G
      have BW := gtrans B3 G
      obtain ⟨f0, f1, f2, f3⟩ := FW.at4
      have ff := FW.free
      rcases (show k = 0 ∨ k = 1 ∨ k = 2 ∨ k = 3 ∨ k = 4 ∨ k = 5 ∨ k = 6 ∨ k = 7 from by omega) with rfl | rfl | rfl | rfl | rfl | rfl | rfl | rfl
      · have cR := cr0 wr G
        obtain ⟨⟨z, p, ix, sb⟩, hrk⟩ : ∃ f, rulE L q (itemF q.items q.items.length) 0 = f := ⟨_, rfl⟩
        rw [hrk] at cR
        dsimp only [flV] at cR
        by_cases hz : z = 0
        · have HD := show Hid (_ = _) from hd.trans (firstAt_go (f := fun k => (rulE L q (itemF q.items q.items.length) k).code) (n := 7) (k := 0) (by omega) (by show (rulE L q (itemF q.items q.items.length) 0).code = 0; rw [hrk]; exact hz))
          subst hz
          clear hd hrk
          go_wp2_with (go_at_call 28; (with_reducible refine cR.mono ?_); rintro _ u ⟨rfl, gu⟩)
          go_roundw
          case rel => exact ⟨⟨1, by omega, by go_num, HD.out⟩, galloc (gtrans G gu) _⟩
          case measure => simp [intOf]
        · replace hd := hd.trans (firstAt_hit (f := fun k => (rulE L q (itemF q.items q.items.length) k).code) (n := 7) (k := 0) (by omega) (by show (rulE L q (itemF q.items q.items.length) 0).code ≠ 0; rw [hrk]; exact hz))
          have e : (⟨z, p, ix, sb⟩ : Fl) = rf := by rw [← HR1.out]; unfold seqE; rw [hd]; exact hrk.symm
          subst e
          have d : (z != 0) = true := by simpa using hz
          clear hd hz hrk HR1
          go_wp2_with (go_at_call 28; (with_reducible refine cR.mono ?_); rintro _ u ⟨rfl, gu⟩; have FU := (FW.keep gu).alloc (.cells #[.int .i64 z, .int .i64 p, .int .i64 ix, .int .i64 sb] 45); obtain ⟨g0, g1, g2, g3⟩ := FU.at4; have gf := FU.free)
          refine bodyPost_ret (v := .agg #[.int .i64 z, .int .i64 p, .int .i64 ix, .int .i64 sb]) (by simp [results, Tryz.results13, go_sem, g0, g1, g2, g3]) rfl ⟨rfl, ?_⟩
          exact gset (gset (gset (gset (galloc (gtrans BW gu) _) (by first | (simp; done) | (simp; omega)) _) (by first | (simp; done) | (simp; omega)) _) (by first | (simp; done) | (simp; omega)) _) (by first | (simp; done) | (simp; omega)) _
      · have cR := cr1 wr G
        obtain ⟨⟨z, p, ix, sb⟩, hrk⟩ : ∃ f, rulE L q (itemF q.items q.items.length) 1 = f := ⟨_, rfl⟩
        rw [hrk] at cR
        dsimp only [flV] at cR
        by_cases hz : z = 0
        · have HD := show Hid (_ = _) from hd.trans (firstAt_go (f := fun k => (rulE L q (itemF q.items q.items.length) k).code) (n := 7) (k := 1) (by omega) (by show (rulE L q (itemF q.items q.items.length) 1).code = 0; rw [hrk]; exact hz))
          subst hz
          clear hd hrk
          go_wp2_with (go_at_call 29; (with_reducible refine cR.mono ?_); rintro _ u ⟨rfl, gu⟩)
          go_roundw
          case rel => exact ⟨⟨2, by omega, by go_num, HD.out⟩, galloc (gtrans G gu) _⟩
          case measure => simp [intOf]
        · replace hd := hd.trans (firstAt_hit (f := fun k => (rulE L q (itemF q.items q.items.length) k).code) (n := 7) (k := 1) (by omega) (by show (rulE L q (itemF q.items q.items.length) 1).code ≠ 0; rw [hrk]; exact hz))
          have e : (⟨z, p, ix, sb⟩ : Fl) = rf := by rw [← HR1.out]; unfold seqE; rw [hd]; exact hrk.symm
          subst e
          have d : (z != 0) = true := by simpa using hz
          clear hd hz hrk HR1
          go_wp2_with (go_at_call 29; (with_reducible refine cR.mono ?_); rintro _ u ⟨rfl, gu⟩; have FU := (FW.keep gu).alloc (.cells #[.int .i64 z, .int .i64 p, .int .i64 ix, .int .i64 sb] 45); obtain ⟨g0, g1, g2, g3⟩ := FU.at4; have gf := FU.free)
          refine bodyPost_ret (v := .agg #[.int .i64 z, .int .i64 p, .int .i64 ix, .int .i64 sb]) (by simp [results, Tryz.results13, go_sem, g0, g1, g2, g3]) rfl ⟨rfl, ?_⟩
          exact gset (gset (gset (gset (galloc (gtrans BW gu) _) (by first | (simp; done) | (simp; omega)) _) (by first | (simp; done) | (simp; omega)) _) (by first | (simp; done) | (simp; omega)) _) (by first | (simp; done) | (simp; omega)) _
      · have cR := cr2 wr G
        obtain ⟨⟨z, p, ix, sb⟩, hrk⟩ : ∃ f, rulE L q (itemF q.items q.items.length) 2 = f := ⟨_, rfl⟩
        rw [hrk] at cR
        dsimp only [flV] at cR
        by_cases hz : z = 0
        · have HD := show Hid (_ = _) from hd.trans (firstAt_go (f := fun k => (rulE L q (itemF q.items q.items.length) k).code) (n := 7) (k := 2) (by omega) (by show (rulE L q (itemF q.items q.items.length) 2).code = 0; rw [hrk]; exact hz))
          subst hz
          clear hd hrk
          go_wp2_with (go_at_call 30; (with_reducible refine cR.mono ?_); rintro _ u ⟨rfl, gu⟩)
          go_roundw
          case rel => exact ⟨⟨3, by omega, by go_num, HD.out⟩, galloc (gtrans G gu) _⟩
          case measure => simp [intOf]
        · replace hd := hd.trans (firstAt_hit (f := fun k => (rulE L q (itemF q.items q.items.length) k).code) (n := 7) (k := 2) (by omega) (by show (rulE L q (itemF q.items q.items.length) 2).code ≠ 0; rw [hrk]; exact hz))
          have e : (⟨z, p, ix, sb⟩ : Fl) = rf := by rw [← HR1.out]; unfold seqE; rw [hd]; exact hrk.symm
          subst e
          have d : (z != 0) = true := by simpa using hz
          clear hd hz hrk HR1
          go_wp2_with (go_at_call 30; (with_reducible refine cR.mono ?_); rintro _ u ⟨rfl, gu⟩; have FU := (FW.keep gu).alloc (.cells #[.int .i64 z, .int .i64 p, .int .i64 ix, .int .i64 sb] 45); obtain ⟨g0, g1, g2, g3⟩ := FU.at4; have gf := FU.free)
          refine bodyPost_ret (v := .agg #[.int .i64 z, .int .i64 p, .int .i64 ix, .int .i64 sb]) (by simp [results, Tryz.results13, go_sem, g0, g1, g2, g3]) rfl ⟨rfl, ?_⟩
          exact gset (gset (gset (gset (galloc (gtrans BW gu) _) (by first | (simp; done) | (simp; omega)) _) (by first | (simp; done) | (simp; omega)) _) (by first | (simp; done) | (simp; omega)) _) (by first | (simp; done) | (simp; omega)) _
      · have cR := cr3 wr G
        obtain ⟨⟨z, p, ix, sb⟩, hrk⟩ : ∃ f, rulE L q (itemF q.items q.items.length) 3 = f := ⟨_, rfl⟩
        rw [hrk] at cR
        dsimp only [flV] at cR
        by_cases hz : z = 0
        · have HD := show Hid (_ = _) from hd.trans (firstAt_go (f := fun k => (rulE L q (itemF q.items q.items.length) k).code) (n := 7) (k := 3) (by omega) (by show (rulE L q (itemF q.items q.items.length) 3).code = 0; rw [hrk]; exact hz))
          subst hz
          clear hd hrk
          go_wp2_with (go_at_call 31; (with_reducible refine cR.mono ?_); rintro _ u ⟨rfl, gu⟩)
          go_roundw
          case rel => exact ⟨⟨4, by omega, by go_num, HD.out⟩, galloc (gtrans G gu) _⟩
          case measure => simp [intOf]
        · replace hd := hd.trans (firstAt_hit (f := fun k => (rulE L q (itemF q.items q.items.length) k).code) (n := 7) (k := 3) (by omega) (by show (rulE L q (itemF q.items q.items.length) 3).code ≠ 0; rw [hrk]; exact hz))
          have e : (⟨z, p, ix, sb⟩ : Fl) = rf := by rw [← HR1.out]; unfold seqE; rw [hd]; exact hrk.symm
          subst e
          have d : (z != 0) = true := by simpa using hz
          clear hd hz hrk HR1
          go_wp2_with (go_at_call 31; (with_reducible refine cR.mono ?_); rintro _ u ⟨rfl, gu⟩; have FU := (FW.keep gu).alloc (.cells #[.int .i64 z, .int .i64 p, .int .i64 ix, .int .i64 sb] 45); obtain ⟨g0, g1, g2, g3⟩ := FU.at4; have gf := FU.free)
          refine bodyPost_ret (v := .agg #[.int .i64 z, .int .i64 p, .int .i64 ix, .int .i64 sb]) (by simp [results, Tryz.results13, go_sem, g0, g1, g2, g3]) rfl ⟨rfl, ?_⟩
          exact gset (gset (gset (gset (galloc (gtrans BW gu) _) (by first | (simp; done) | (simp; omega)) _) (by first | (simp; done) | (simp; omega)) _) (by first | (simp; done) | (simp; omega)) _) (by first | (simp; done) | (simp; omega)) _
      · have cR := cr4 wr G
        obtain ⟨⟨z, p, ix, sb⟩, hrk⟩ : ∃ f, rulE L q (itemF q.items q.items.length) 4 = f := ⟨_, rfl⟩
        rw [hrk] at cR
        dsimp only [flV] at cR
        by_cases hz : z = 0
        · have HD := show Hid (_ = _) from hd.trans (firstAt_go (f := fun k => (rulE L q (itemF q.items q.items.length) k).code) (n := 7) (k := 4) (by omega) (by show (rulE L q (itemF q.items q.items.length) 4).code = 0; rw [hrk]; exact hz))
          subst hz
          clear hd hrk
          go_wp2_with (go_at_call 32; (with_reducible refine cR.mono ?_); rintro _ u ⟨rfl, gu⟩)
          go_roundw
          case rel => exact ⟨⟨5, by omega, by go_num, HD.out⟩, galloc (gtrans G gu) _⟩
          case measure => simp [intOf]
        · replace hd := hd.trans (firstAt_hit (f := fun k => (rulE L q (itemF q.items q.items.length) k).code) (n := 7) (k := 4) (by omega) (by show (rulE L q (itemF q.items q.items.length) 4).code ≠ 0; rw [hrk]; exact hz))
          have e : (⟨z, p, ix, sb⟩ : Fl) = rf := by rw [← HR1.out]; unfold seqE; rw [hd]; exact hrk.symm
          subst e
          have d : (z != 0) = true := by simpa using hz
          clear hd hz hrk HR1
          go_wp2_with (go_at_call 32; (with_reducible refine cR.mono ?_); rintro _ u ⟨rfl, gu⟩; have FU := (FW.keep gu).alloc (.cells #[.int .i64 z, .int .i64 p, .int .i64 ix, .int .i64 sb] 45); obtain ⟨g0, g1, g2, g3⟩ := FU.at4; have gf := FU.free)
          refine bodyPost_ret (v := .agg #[.int .i64 z, .int .i64 p, .int .i64 ix, .int .i64 sb]) (by simp [results, Tryz.results13, go_sem, g0, g1, g2, g3]) rfl ⟨rfl, ?_⟩
          exact gset (gset (gset (gset (galloc (gtrans BW gu) _) (by first | (simp; done) | (simp; omega)) _) (by first | (simp; done) | (simp; omega)) _) (by first | (simp; done) | (simp; omega)) _) (by first | (simp; done) | (simp; omega)) _
      · have cR := cr5 wr G
        obtain ⟨⟨z, p, ix, sb⟩, hrk⟩ : ∃ f, rulE L q (itemF q.items q.items.length) 5 = f := ⟨_, rfl⟩
        rw [hrk] at cR
        dsimp only [flV] at cR
        by_cases hz : z = 0
        · have HD := show Hid (_ = _) from hd.trans (firstAt_go (f := fun k => (rulE L q (itemF q.items q.items.length) k).code) (n := 7) (k := 5) (by omega) (by show (rulE L q (itemF q.items q.items.length) 5).code = 0; rw [hrk]; exact hz))
          subst hz
          clear hd hrk
          go_wp2_with (go_at_call 33; (with_reducible refine cR.mono ?_); rintro _ u ⟨rfl, gu⟩)
          go_roundw
          case rel => exact ⟨⟨6, by omega, by go_num, HD.out⟩, galloc (gtrans G gu) _⟩
          case measure => simp [intOf]
        · replace hd := hd.trans (firstAt_hit (f := fun k => (rulE L q (itemF q.items q.items.length) k).code) (n := 7) (k := 5) (by omega) (by show (rulE L q (itemF q.items q.items.length) 5).code ≠ 0; rw [hrk]; exact hz))
          have e : (⟨z, p, ix, sb⟩ : Fl) = rf := by rw [← HR1.out]; unfold seqE; rw [hd]; exact hrk.symm
          subst e
          have d : (z != 0) = true := by simpa using hz
          clear hd hz hrk HR1
          go_wp2_with (go_at_call 33; (with_reducible refine cR.mono ?_); rintro _ u ⟨rfl, gu⟩; have FU := (FW.keep gu).alloc (.cells #[.int .i64 z, .int .i64 p, .int .i64 ix, .int .i64 sb] 45); obtain ⟨g0, g1, g2, g3⟩ := FU.at4; have gf := FU.free)
          refine bodyPost_ret (v := .agg #[.int .i64 z, .int .i64 p, .int .i64 ix, .int .i64 sb]) (by simp [results, Tryz.results13, go_sem, g0, g1, g2, g3]) rfl ⟨rfl, ?_⟩
          exact gset (gset (gset (gset (galloc (gtrans BW gu) _) (by first | (simp; done) | (simp; omega)) _) (by first | (simp; done) | (simp; omega)) _) (by first | (simp; done) | (simp; omega)) _) (by first | (simp; done) | (simp; omega)) _
      · have cR := cr6 wr G
        obtain ⟨⟨z, p, ix, sb⟩, hrk⟩ : ∃ f, rulE L q (itemF q.items q.items.length) 6 = f := ⟨_, rfl⟩
        rw [hrk] at cR
        dsimp only [flV] at cR
        by_cases hz : z = 0
        · have HD := show Hid (_ = _) from hd.trans (firstAt_go (f := fun k => (rulE L q (itemF q.items q.items.length) k).code) (n := 7) (k := 6) (by omega) (by show (rulE L q (itemF q.items q.items.length) 6).code = 0; rw [hrk]; exact hz))
          subst hz
          clear hd hrk
          go_wp2_with (go_at_call 34; (with_reducible refine cR.mono ?_); rintro _ u ⟨rfl, gu⟩)
          go_roundw
          case rel => exact ⟨⟨7, by omega, by go_num, HD.out⟩, galloc (gtrans G gu) _⟩
          case measure => simp [intOf]
        · replace hd := hd.trans (firstAt_hit (f := fun k => (rulE L q (itemF q.items q.items.length) k).code) (n := 7) (k := 6) (by omega) (by show (rulE L q (itemF q.items q.items.length) 6).code ≠ 0; rw [hrk]; exact hz))
          have e : (⟨z, p, ix, sb⟩ : Fl) = rf := by rw [← HR1.out]; unfold seqE; rw [hd]; exact hrk.symm
          subst e
          have d : (z != 0) = true := by simpa using hz
          clear hd hz hrk HR1
          go_wp2_with (go_at_call 34; (with_reducible refine cR.mono ?_); rintro _ u ⟨rfl, gu⟩; have FU := (FW.keep gu).alloc (.cells #[.int .i64 z, .int .i64 p, .int .i64 ix, .int .i64 sb] 45); obtain ⟨g0, g1, g2, g3⟩ := FU.at4; have gf := FU.free)
          refine bodyPost_ret (v := .agg #[.int .i64 z, .int .i64 p, .int .i64 ix, .int .i64 sb]) (by simp [results, Tryz.results13, go_sem, g0, g1, g2, g3]) rfl ⟨rfl, ?_⟩
          exact gset (gset (gset (gset (galloc (gtrans BW gu) _) (by first | (simp; done) | (simp; omega)) _) (by first | (simp; done) | (simp; omega)) _) (by first | (simp; done) | (simp; omega)) _) (by first | (simp; done) | (simp; omega)) _
      · replace hd := hd.trans (firstAt_end (f := fun k => (rulE L q (itemF q.items q.items.length) k).code) (n := 7) (k := 7) (by omega))
        have e : noFl = rf := by rw [← HR1.out]; unfold seqE; rw [hd]
        subst e
        clear hd HR1
        go_wp2
        refine bodyPost_ret (v := .agg #[.int .i64 0, .int .i64 0, .int .i64 0, .int .i64 0]) (by simp [results, Tryz.results13, go_sem, f0, f1, f2, f3]) rfl ⟨rfl, ?_⟩
        exact gset (gset (gset (gset BW (by first | (simp; done) | (simp; omega)) _) (by first | (simp; done) | (simp; omega)) _) (by first | (simp; done) | (simp; omega)) _) (by first | (simp; done) | (simp; omega)) _

end Go.Proofs.YtlejhococjlijaaGreatDoor
