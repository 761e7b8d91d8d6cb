/- A tree that is read, in memory; parts without operands. -/
import Derived.Test.YtmoimmghmmomlaaDoorPm
import Derived.Deep.RegionLaw
import Derived.Deep.AppendLies
namespace Go.Proofs.YtmoimmghmmomlaaDoor
open Go.RowKit Go.BigFrame
set_option linter.unusedVariables false
set_option linter.unusedSimpArgs false

theorem infoNd : (Tryd.prog.info? 58).map (fun i => (i.zero, i.size, i.bytes)) = some (some (.agg (ndA noNd)), 6, 64) := by kernel_rfl
theorem infoNdS : (Tryd.prog.info? 58).map (·.size) = some 6 := by kernel_rfl
theorem infoI : (Tryd.prog.info? 3).map (fun i => (i.zero, i.size, i.bytes)) = some (some (.int .i64 0), 1, 8) := by kernel_rfl
theorem info_of {P : Program} {e : TypeId} {z : Value} {s b : Nat} (h : (P.info? e).map (fun i => (i.zero, i.size, i.bytes)) = some (some z, s, b)) : ∃ i, P.info? e = some i ∧ i.zero = some z ∧ i.size = s ∧ i.bytes = b := by
  cases hi : P.info? e with
  | none => rw [hi] at h; cases h
  | some i => rw [hi] at h; simp at h; exact ⟨i, rfl, h.1, h.2.1, h.2.2⟩
theorem own_far {w u : World} {base : Nat} {e : TypeId} {size : Nat} {v : Value} {n : Nat} {xs : List Value} {r : Option Nat} (h : w.ownsRow base e size v n xs) (G : w.grownBy u r) (hr : ∀ k, r = some k → v.ownBlock ≠ some k) : u.ownsRow base e size v n xs := by
  obtain ⟨h1, h2⟩ := h
  refine ⟨h1, ?_⟩
  rcases h2 with h2 | ⟨g, cap, cur, rfl, hb, hh, rest⟩
  · exact .inl h2
  · exact .inr ⟨g, cap, cur, rfl, hb, (G.block g (lt_of_block hh) (fun e' => hr g e'.symm rfl)).trans hh, rest⟩
theorem own_ne {w : World} {b1 b2 : Nat} {e1 e2 : TypeId} {s1 s2 : Nat} {v1 v2 : Value} {n1 n2 : Nat} {x1 x2 : List Value} (h1 : w.ownsRow b1 e1 s1 v1 n1 x1) (h2 : w.ownsRow b2 e2 s2 v2 n2 x2) (he : e1 ≠ e2) (g : Nat) (hg : v1.ownBlock = some g) : v2.ownBlock ≠ some g := by
  intro hg2
  rcases h1.2 with ⟨rfl, _⟩ | ⟨g1, c1, u1, rfl, _, q1, _⟩
  · cases hg
  rcases h2.2 with ⟨rfl, _⟩ | ⟨g2, c2, u2, rfl, _, q2, _⟩
  · cases hg2
  have e1 : g1 = g := Option.some.inj hg
  have e2 : g2 = g := Option.some.inj hg2
  subst e1
  subst e2
  rw [q1] at q2
  simp only [Option.some.injEq, Obj.cells.injEq] at q2
  exact he q2.2.1
/-- Blocks of tokens are as they were. -/
def KT (w u : World) : Prop := ∀ (k : Nat) (cs : Array Value) (fr : Nat × Nat), w.heap[k]? = some (Obj.cells cs 79 fr) → u.heap[k]? = w.heap[k]?
theorem KT.refl (w : World) : KT w w := fun _ _ _ _ => rfl
theorem KT.trans {w u v : World} (h : KT w u) (k : KT u v) : KT w v := fun j cs fr e => (k j cs fr ((h j cs fr e).trans e)).trans (h j cs fr e)
theorem KT.below {w u : World} (h : Below w.heap.size w u) : KT w u := fun j cs fr e => h.block j (lt_of_block e)
theorem KT.kd {w u : World} {d g : Nat} {e : Int} {ts : List Tok} {o : Nat} (D : De w d g e ts o) (h : Kd d w.heap.size w u) : KT w u := fun j cs fr e => h.blk j (lt_of_block e) (fun e2 => by
  subst e2
  obtain ⟨_, _, h1, _⟩ := D.ex
  rw [h1] at e
  simp at e)
theorem KT.set {w : World} {b : Nat} {cs : Array Value} {t : TypeId} {fr : Nat × Nat} (h : w.heap[b]? = some (.cells cs t fr)) (ht : t ≠ 79) (o : Nat) (v : Value) : KT w (w.setCell ⟨b, o, none⟩ v) := fun j cs' fr' e => Below.heap_setCell w ⟨b, o, none⟩ v j (fun e2 => by
  have e3 : j = b := e2
  subst e3
  rw [h] at e
  simp only [Option.some.injEq, Obj.cells.injEq] at e
  exact ht e.2.1)
theorem KT.grown {w u : World} {b : Nat} {e : TypeId} {sz : Nat} {v : Value} {n : Nat} {xs : List Value} (h : w.ownsRow b e sz v n xs) (he : e ≠ 79) (G : w.grownBy u v.ownBlock) : KT w u := fun j cs fr hj => G.block j (lt_of_block hj) (fun e2 => by
  rcases h.2 with ⟨rfl, _⟩ | ⟨g, cap, cur, rfl, _, hh, _⟩
  · cases e2
  · have e3 : j = g := Option.some.inj e2
    subst e3
    rw [hh] at hj
    simp only [Option.some.injEq, Obj.cells.injEq] at hj
    exact he hj.2.1)
structure Tr (w : World) (b t : Nat) (ns : List Nd) (sp : List Int) : Prop where
  lo : b ≤ t
  ex : ∃ vn vs, w.heap[t]? = some (.cells #[vn, vs] 110 (0, 0)) ∧ w.ownsRow b 58 6 vn ns.length (ndsV ns) ∧ w.ownsRow b 3 1 vs sp.length (intsV sp)
theorem Tr.lt {w : World} {b t : Nat} {ns : List Nd} {sp : List Int} (h : Tr w b t ns sp) : t < w.heap.size := by
  obtain ⟨_, _, h, _⟩ := h.ex
  exact lt_of_block h
theorem Tr.blk {w u : World} {b t : Nat} {ns : List Nd} {sp : List Int} (h : Tr w b t ns sp) (G : ∀ k, b ≤ k → k < w.heap.size → u.heap[k]? = w.heap[k]?) : Tr u b t ns sp := by
  have h0 := h.lo
  have hl := h.lt
  obtain ⟨vn, vs, e1, e2, e3⟩ := h.ex
  exact ⟨h0, vn, vs, (G t h0 hl).trans e1, own_of_block e2 (fun g _ hg hh => G g hg (lt_of_block hh)), own_of_block e3 (fun g _ hg hh => G g hg (lt_of_block hh))⟩
theorem Tr.keep {w u : World} {b t : Nat} {ns : List Nd} {sp : List Int} (h : Tr w b t ns sp) (G : Below w.heap.size w u) : Tr u b t ns sp := h.blk fun k _ hk => G.block k hk
theorem Tr.kd {w u : World} {b t d : Nat} {ns : List Nd} {sp : List Int} (h : Tr w b t ns sp) (hd : d < b) (G : Kd d w.heap.size w u) : Tr u b t ns sp := h.blk fun k h1 h2 => G.blk k h2 (by omega)
theorem De.low {w u : World} {d g b : Nat} {e : Int} {ts : List Tok} {o : Nat} (h : De w d g e ts o) (hd : d < b) (G : Below b w u) : De u d g e ts o := by
  have h0 := h.lo
  obtain ⟨ao, c, hb, hc, ht⟩ := h.ex
  exact ⟨h0, ao, c, (G.block d hd).trans hb, hc, fun hne => by obtain ⟨off, e1, e2⟩ := ht hne; exact ⟨off, e1, e2.same (G.block g (by omega))⟩⟩
theorem Kd.lowB {d b : Nat} {w u : World} (h : Below b w u) : Kd d b w u := ⟨h.os, h.tape, h.output, h.size, fun j h1 _ => h.block j h1⟩
theorem Tr.at {w : World} {b t : Nat} {ns : List Nd} {sp : List Int} (h : Tr w b t ns sp) : ∃ a1 c1 a2 c2, w.cell? ⟨t, 0, none⟩ = some (.slice a1 ns.length c1) ∧ w.cell? ⟨t, 1, none⟩ = some (.slice a2 sp.length c2) ∧ (∀ k, w.frozen? ⟨t, k, none⟩ = false) ∧ w.heap[t]? = some (.cells #[.slice a1 ns.length c1, .slice a2 sp.length c2] 110 (0, 0)) ∧ w.ownsRow b 58 6 (.slice a1 ns.length c1) ns.length (ndsV ns) ∧ w.ownsRow b 3 1 (.slice a2 sp.length c2) sp.length (intsV sp) := by
  obtain ⟨vn, vs, e1, e2, e3⟩ := h.ex
  obtain ⟨a1, c1, rfl⟩ := own_shape e2
  obtain ⟨a2, c2, rfl⟩ := own_shape e3
  exact ⟨a1, c1, a2, c2, by simp [World.cell?, e1], by simp [World.cell?, e1], fun k => by simp [World.frozen?, e1], e1, e2, e3⟩

section
variable (w : World) (b t : Nat) (ns : List Nd) (sp : List Int)
set_option maxHeartbeats 1000000 in
theorem root_any (T : Tr w b t ns sp) (hn : ns.length ≤ 1000) : Calls Tryd.prog 103 #[.pointer (some ⟨t, 0, none⟩)] w fun e w' => e = .returned (.int .i64 ((ns.length : Int) - 1)) ∧ w = w' := by
  obtain ⟨a1, c1, a2, c2, h1, h2, hf, _⟩ := T.at
  generalize ns.length = n at *
  go_enter Tryd.func103, Tryd.ntmps103
  go_wp2
  go_ret
  exact ⟨rfl, rfl⟩
theorem new6 (w : World) (n : Nd) (j : Nat) (u : Value) (h : (ndA n).toList[j]? = some u) : (w.alloc (.cells (ndA n) 58)).drew.cell? ((⟨w.heap.size, 0, none⟩ : Addr).add j) = some u := by
  show (w.alloc _).cell? _ = _
  rw [Go.WideShapes.add_plain, Nat.zero_add, World.cell?_alloc_new]
  simpa using h
theorem new1i (w : World) (a : Int) (j : Nat) (u : Value) (h : [Value.int .i64 a][j]? = some u) : (w.alloc (.cells #[.int .i64 a] 3)).cell? ((⟨w.heap.size, 0, none⟩ : Addr).add j) = some u := by
  rw [Go.WideShapes.add_plain, Nat.zero_add, World.cell?_alloc_new]
  simpa using h
set_option maxRecDepth 100000 in
set_option maxHeartbeats 4000000 in
theorem add_any (a : Int) (n : Nd) (T : Tr w b t ns sp) (hbw : b ≤ w.heap.size) (hn : ns.length ≤ 1000) (hs : sp.length ≤ 1000) : Calls Tryd.prog 104 #[.pointer (some ⟨t, 0, none⟩), .int .i64 a, .agg (ndA n)] w fun e w' => e = .returned (.tuple #[]) ∧ Tr w' b t (ns ++ [n]) (sp ++ [a]) ∧ Below b w w' ∧ KT w w' := by
  obtain ⟨i3, ti, tz0, tz1, tz2⟩ := info_of infoNd
  obtain ⟨i0, hi, hz0, hz1, hz2⟩ := info_of infoI
  have G0 := galloc (Below.refl w.heap.size w) (.cells (ndA n) 58)
  have T1 := T.keep G0
  have hlo := T.lo
  have hbx : (w.alloc (.cells (ndA n) 58)).heap[w.heap.size]? = some (.cells (ndA n) 58 (0, 0)) := heap_alloc_new _ _
  go_enter Tryd.func104, Tryd.ntmps104
  go_upto_region 1 with fail
  generalize hV : w.alloc (.cells (ndA n) 58) = V at G0 T1 hbx ⊢
  clear hV
  obtain ⟨a1, c1, a2, c2, h1, h2, hf, hbk, O1, O2⟩ := T1.at
  have hbV : b ≤ V.heap.size := Nat.le_trans hbw G0.size
  have hTl := T1.lt
  obtain ⟨m, hm⟩ : ∃ m, m = ns.length := ⟨_, rfl⟩
  obtain ⟨m2, hm2⟩ : ∃ m2, m2 = sp.length := ⟨_, rfl⟩
  rw [← hm] at h1 O1 hn hbk
  rw [← hm2] at h2 O2 hs hbk
  have HM : Hid (m = ns.length) := hm
  have HM2 : Hid (m2 = sp.length) := hm2
  clear hm hm2
  have x0 : V.cell? ⟨w.heap.size, 0, none⟩ = some (.int .i64 n.op) := by simp [World.cell?, hbx, ndA]
  have x1 : V.cell? ⟨w.heap.size, 1, none⟩ = some (.int .i64 n.n) := by simp [World.cell?, hbx, ndA]
  have x2 : V.cell? ⟨w.heap.size, 2, none⟩ = some (.string n.v) := by simp [World.cell?, hbx, ndA]
  have x3 : V.cell? ⟨w.heap.size, 3, none⟩ = some (.string n.x) := by simp [World.cell?, hbx, ndA]
  have x4 : V.cell? ⟨w.heap.size, 4, none⟩ = some (.int .i64 n.l) := by simp [World.cell?, hbx, ndA]
  have x5 : V.cell? ⟨w.heap.size, 5, none⟩ = some (.int .i64 n.r) := by simp [World.cell?, hbx, ndA]
  have hone : ∀ u ∈ (ndA n).toList, u.oneCell' = true := by intro u hu; simp [ndA] at hu; rcases hu with rfl | rfl | rfl | rfl | rfl | rfl <;> rfl
  have u3 : ∀ o, (V.alloc o).cell? ⟨t, 0, none⟩ = some (.slice a1 m c1) := fun o => by
    have := Below.heap_alloc V o t hTl
    unfold World.cell? at *
    simp only at *
    rw [this]; exact h1
  have hap : ∀ g, (Value.slice a1 m c1).ownBlock = some g → g ≠ t := fun g hg e => by
    rcases O1.2 with ⟨h5, _⟩ | ⟨g', cap', cur, h5, _, hh, _⟩
    · rw [h5] at hg; simp [Value.ownBlock] at hg
    · rw [h5] at hg
      simp [Value.ownBlock] at hg
      rw [← hg] at e
      rw [e, hbk] at hh
      simp at hh
  go_region_law (refine step_append_lies _ rfl (.tmp 10) (.tmp 12) 22 rfl b 58 i3 (.agg (ndA noNd)) 6 64 Tryd.underlying22 ti tz0 tz1 tz2 rfl (by decide) (.slice a1 m c1) m (ndsV ns) (by simp [Act.eval, Act.put]) (O1.drew.alloc _) ⟨V.heap.size, 0, none⟩ 1 1 (ndA n).toList (by simp [Act.eval, Act.put]) rfl (new6 _ _) hone (by decide) (by unfold maxLen; omega) (by omega) (by simp; omega) _ rfl ?_; intro g c3 w6 hown6 hgrow6 hat6 hlt6; have t0 : w6.heap[t]? = some (.cells #[.slice a1 m c1, .slice a2 m2 c2] 110 (0, 0)) := (hgrow6.block t (by simp; omega) (fun e => hap t e.symm rfl)).trans ((Below.heap_alloc V _ t hTl).trans hbk); have t1 : w6.cell? ⟨t, 0, none⟩ = some (.slice a1 m c1) := (by simp [World.cell?, t0]); have t2 : w6.frozen? ⟨t, 0, none⟩ = false := (by simp [World.frozen?, t0]))
  all_goals
    have t7 := heap_setCell_same w6 t 0 _ _ (.slice (some ⟨g, 0, none⟩) (m + 1) c3) t0
    have R7 : (w6.setCell ⟨t, 0, none⟩ (.slice (some ⟨g, 0, none⟩) (m + 1) c3)).ownsRow b 58 6 (.slice (some ⟨g, 0, none⟩) (m + 1) c3) (m + 1) (ndsV (ns ++ [n])) := by
      rw [show ndsV (ns ++ [n]) = ndsV ns ++ (ndA n).toList by simp [ndsV]]
      refine own_of_block hown6 (fun g' cur hg' hh => Below.heap_setCell w6 _ _ g' (fun e => ?_))
      have e' : g' = t := e
      rw [e', t0] at hh
      simp at hh
    have S6 : w6.ownsRow b 3 1 (.slice a2 m2 c2) m2 (intsV sp) := own_far (O2.drew.alloc _) hgrow6 (fun k e => own_ne O1 O2 (by decide) k e)
    have S7 : (w6.setCell ⟨t, 0, none⟩ (.slice (some ⟨g, 0, none⟩) (m + 1) c3)).ownsRow b 3 1 (.slice a2 m2 c2) m2 (intsV sp) := by
      refine own_of_block S6 (fun g' cur hg' hh => Below.heap_setCell w6 _ _ g' (fun e => ?_))
      have e' : g' = t := e
      rw [e', t0] at hh
      simp at hh
    have G7 : Below b w (w6.setCell ⟨t, 0, none⟩ (.slice (some ⟨g, 0, none⟩) (m + 1) c3)) :=
      ((((G0.mono hbw).alloc hbV _).drew.grown hgrow6 (by simp; omega) (fun r e => (O1.lt _ e).1))).setCell hlo _
    have Q6 : KT w w6 := (KT.below (galloc G0 _).drew).trans (KT.grown (O1.drew.alloc _) (by decide) hgrow6)
    have Q7 : KT w (w6.setCell ⟨t, 0, none⟩ (.slice (some ⟨g, 0, none⟩) (m + 1) c3)) := Q6.trans (KT.set t0 (by decide) 0 _)
    have hz7 : w.heap.size ≤ (w6.setCell ⟨t, 0, none⟩ (.slice (some ⟨g, 0, none⟩) (m + 1) c3)).heap.size := G7.size
    have hT7 := lt_of_block t7
    clear hown6 hgrow6 hat6 hlt6 t0 t1 t2 S6 Q6
    generalize w6.setCell ⟨t, 0, none⟩ (.slice (some ⟨g, 0, none⟩) (m + 1) c3) = w7 at *
    replace t7 : w7.heap[t]? = some (.cells #[.slice (some ⟨g, 0, none⟩) (m + 1) c3, .slice a2 m2 c2] 110 (0, 0)) := t7
    have t1 : w7.cell? ⟨t, 1, none⟩ = some (.slice a2 m2 c2) := by simp [World.cell?, t7]
    have hone1 : ∀ u ∈ [Value.int .i64 a], u.oneCell' = true := by intro u hu; simp at hu; subst hu; rfl
    go_wp2_with (at_builtin; refine wpList_append_lies _ rfl (.tmp 20) (.tmp 22) 31 rfl b 3 i0 (.int .i64 0) 1 8 Tryd.underlying31 hi hz0 hz1 hz2 rfl (by decide) (.slice a2 m2 c2) m2 (intsV sp) rfl (S7.alloc _) ⟨w7.heap.size, 0, none⟩ 1 1 [.int .i64 a] rfl rfl (new1i _ _) hone1 (by decide) (by unfold maxLen; omega) (by omega) (by simp; omega) _ rfl ?_)
    intro g2 c4 w8 hown8 hgrow8 hat8 hlt8
    have t8 : w8.heap[t]? = some (.cells #[.slice (some ⟨g, 0, none⟩) (m + 1) c3, .slice a2 m2 c2] 110 (0, 0)) := (hgrow8.block t (by simp; omega) (fun e => by
      rcases S7.2 with ⟨h5, _⟩ | ⟨g', cap', cur, h5, _, hh, _⟩
      · rw [h5] at e; simp [Value.ownBlock] at e
      · rw [h5] at e
        simp [Value.ownBlock] at e
        rw [← e, t7] at hh
        simp at hh)).trans ((Below.heap_alloc w7 _ t hT7).trans t7)
    have t9 : w8.cell? ⟨t, 1, none⟩ = some (.slice a2 m2 c2) := by simp [World.cell?, t8]
    have t10 : w8.frozen? ⟨t, 1, none⟩ = false := by simp [World.frozen?, t8]
    go_wp2
    go_end0
    refine ⟨rfl, ⟨hlo, .slice (some ⟨g, 0, none⟩) (m + 1) c3, .slice (some ⟨g2, 0, none⟩) (m2 + 1) c4, heap_setCell_same w8 t 1 _ _ _ t8, ?_, ?_⟩, ?_, ?_⟩
    · have e1 : (ns ++ [n]).length = m + 1 := by simp [HM.out]
      rw [e1]
      refine own_of_block (own_far (R7.alloc _) hgrow8 (fun k e => own_ne S7 R7 (by decide) k e)) (fun g' cur hg' hh => Below.heap_setCell w8 _ _ g' (fun e => ?_))
      have e' : g' = t := e
      rw [e', t8] at hh
      simp at hh
    · have e1 : (sp ++ [a]).length = m2 + 1 := by simp [HM2.out]
      rw [e1, show intsV (sp ++ [a]) = intsV sp ++ [.int .i64 a] by simp [intsV]]
      refine own_of_block hown8 (fun g' cur hg' hh => Below.heap_setCell w8 _ _ g' (fun e => ?_))
      have e' : g' = t := e
      rw [e', t8] at hh
      simp at hh
    · exact ((G7.alloc (by omega) _).grown hgrow8 (by simp; omega) (fun r e => (S7.lt _ e).1)).setCell hlo _
    · exact ((Q7.trans (KT.below (galloc (Below.refl _ _) _))).trans (KT.grown (S7.alloc _) (by decide) hgrow8)).trans (KT.set t8 (by decide) 1 _)
end

end Go.Proofs.YtmoimmghmmomlaaDoor
