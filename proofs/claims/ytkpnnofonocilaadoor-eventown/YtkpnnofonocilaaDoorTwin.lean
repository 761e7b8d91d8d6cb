/- A schema of the call's own; what the law's twin comes to. -/
import Derived.Test.YtkpnnofonocilaaDoorSch2
import Derived.Test.YtkpnnofonocilaaDoorTwo
import Derived.Deep.AppendLies
import Derived.Deep.RegionLaw
import Derived.OwnWalk
namespace Go.Proofs.YtkpnnofonocilaaDoor
open Go.RowKit Go.BigFrame
set_option linter.unusedVariables false
set_option linter.unusedSimpArgs false

def strsV (ss : List ByteArray) : List Value := ss.map Value.string
theorem strsV_more (ss : List ByteArray) (k : Nat) (h : k < ss.length) : strsV (ss.take k) ++ [.string (ss.getD k .empty)] = strsV (ss.take (k + 1)) := by
  unfold strsV
  rw [List.take_add_one]
  simp only [List.map_append, List.getD, List.getElem?_eq_getElem h, Option.getD_some, Option.toList_some, List.map_cons, List.map_nil]
theorem own_of_block {w u : World} {base : Nat} {e : TypeId} {size : Nat} {v : Value} {n : Nat} {xs : List Value} (h : w.ownsRow base e size v n xs) (hk : ∀ g cur, base ≤ g → w.heap[g]? = some (.cells cur e (0, 0)) → u.heap[g]? = w.heap[g]?) : u.ownsRow base e size v n xs := by
  obtain ⟨h1, h2⟩ := h
  refine ⟨h1, ?_⟩
  rcases h2 with h2 | ⟨g, cap, cur, rfl, hb, hh, r⟩
  · exact .inl h2
  · exact .inr ⟨g, cap, cur, rfl, hb, (hk g cur hb hh).trans hh, r⟩
theorem own_keep {w u : World} {base : Nat} {e : TypeId} {size : Nat} {v : Value} {n : Nat} {xs : List Value} (h : w.ownsRow base e size v n xs) (G : Below w.heap.size w u) : u.ownsRow base e size v n xs :=
  own_of_block h fun g _ _ hg => G.block g (lt_of_block hg)
theorem own_mono {w : World} {base base' : Nat} {e : TypeId} {size : Nat} {v : Value} {n : Nat} {xs : List Value} (h : w.ownsRow base e size v n xs) (hb : base' ≤ base) : w.ownsRow base' e size v n xs := by
  obtain ⟨h1, h2⟩ := h
  refine ⟨h1, ?_⟩
  rcases h2 with h2 | ⟨g, cap, cur, rfl, hg, r⟩
  · exact .inl h2
  · exact .inr ⟨g, cap, cur, rfl, Nat.le_trans hb hg, r⟩

/-- The value v holds the types L in memory that lies at base or behind. -/
def OwnT (base : Nat) (w : World) (v : Value) (n : Nat) (L : List Ty) : Prop :=
  L.length = n ∧ ∃ cells : List Value, w.ownsRow base 35 2 v n cells ∧ ∀ j, j < n → cells[j * 2]? = some (.string (L.getD j noTy).1) ∧
    ∃ aj cj, cells[j * 2 + 1]? = some (.slice aj (L.getD j noTy).2.length cj) ∧ w.ownsRow base 9 1 (.slice aj (L.getD j noTy).2.length cj) (L.getD j noTy).2.length (strsV (L.getD j noTy).2)
theorem OwnT.keep {base : Nat} {w u : World} {v : Value} {n : Nat} {L : List Ty} (h : OwnT base w v n L) (G : Below w.heap.size w u) : OwnT base u v n L := by
  obtain ⟨h0, cells, h1, h2⟩ := h
  refine ⟨h0, cells, own_keep h1 G, fun j hj => ?_⟩
  obtain ⟨e1, aj, cj, e2, e3⟩ := h2 j hj
  exact ⟨e1, aj, cj, e2, own_keep e3 G⟩
theorem OwnT.mono {base base' : Nat} {w : World} {v : Value} {n : Nat} {L : List Ty} (h : OwnT base w v n L) (hb : base' ≤ base) : OwnT base' w v n L := by
  obtain ⟨h0, cells, h1, h2⟩ := h
  refine ⟨h0, cells, own_mono h1 hb, fun j hj => ?_⟩
  obtain ⟨e1, aj, cj, e2, e3⟩ := h2 j hj
  exact ⟨e1, aj, cj, e2, own_mono e3 hb⟩
theorem OwnT.other {base : Nat} {w : World} {v : Value} {n : Nat} {L : List Ty} (h : OwnT base w v n L) {p : Addr} (hp : p.block < base) (u : Value) : OwnT base (w.setCell p u) v n L := by
  obtain ⟨h0, cells, h1, h2⟩ := h
  refine ⟨h0, cells, own_of_block h1 (fun g _ hg _ => Below.heap_setCell w p u g (by omega)), fun j hj => ?_⟩
  obtain ⟨e1, aj, cj, e2, e3⟩ := h2 j hj
  exact ⟨e1, aj, cj, e2, own_of_block e3 (fun g _ hg _ => Below.heap_setCell w p u g (by omega))⟩
theorem own_cell {w : World} {base : Nat} {e : TypeId} {size : Nat} {g n cap : Nat} {xs : List Value} (h : w.ownsRow base e size (.slice (some ⟨g, 0, none⟩) n cap) n xs) (j : Nat) (x : Value) (hj : xs[j]? = some x) : w.cell? ⟨g, j, none⟩ = some x := by
  obtain ⟨h1, h2⟩ := h
  rcases h2 with ⟨e1, _⟩ | ⟨g', cap', cur, e1, hb, hh, hc, hm, hs, ht⟩
  · simp at e1
  · simp only [Value.slice.injEq, Option.some.injEq, Addr.mk.injEq, and_true, true_and] at e1
    obtain ⟨rfl, rfl⟩ := e1
    rw [cell_of_row w g j cur e (0, 0) hh]
    have hjl := (List.getElem?_eq_some_iff.1 hj).1
    have e1 : cur.toList[j]? = xs[j]? := by rw [← ht, List.getElem?_take, if_pos (by omega)]
    have e2 : cur[j]? = cur.toList[j]? := by simp
    rw [e2, e1, hj]
theorem own_shape {w : World} {base : Nat} {e : TypeId} {size : Nat} {v : Value} {n : Nat} {xs : List Value} (h : w.ownsRow base e size v n xs) : ∃ ao cap, v = .slice ao n cap ∧ n ≤ 9223372036854775807 ∧ (n = 0 ∨ ∃ g, ao = some ⟨g, 0, none⟩ ∧ g < w.heap.size ∧ base ≤ g) := by
  obtain ⟨h1, h2⟩ := h
  rcases h2 with ⟨rfl, rfl⟩ | ⟨g, cap, cur, rfl, hb, hh, hc, hm, hs, ht⟩
  · exact ⟨_, _, rfl, by omega, .inl rfl⟩
  · exact ⟨_, _, rfl, by unfold maxLen at hm; omega, .inr ⟨g, rfl, lt_of_block hh, hb⟩⟩
theorem own_cap {w : World} {base : Nat} {e : TypeId} {size : Nat} {ao : Option Addr} {n cap : Nat} {xs : List Value} (h : w.ownsRow base e size (.slice ao n cap) n xs) : n ≤ cap := by
  rcases h.2 with ⟨e1, rfl⟩ | ⟨g, cap', cur, e1, _, _, hc, _⟩
  · exact Nat.zero_le _
  · simp only [Value.slice.injEq, true_and] at e1
    obtain ⟨_, rfl⟩ := e1
    exact hc
theorem OwnT.types {base : Nat} {w : World} {v : Value} {n : Nat} {L : List Ty} (h : OwnT base w v n L) : ∃ ao cap, v = .slice ao n cap ∧ IsTypes w ao n L := by
  obtain ⟨h0, cells, h1, h2⟩ := h
  obtain ⟨ao, cap, rfl, hn, hg⟩ := own_shape h1
  refine ⟨ao, cap, rfl, h0, hn, ?_⟩
  rcases hg with hg | ⟨g, rfl, hlt, hb⟩
  · exact .inl hg
  refine .inr ⟨g, 0, rfl, hlt, fun j hj => ?_⟩
  obtain ⟨e1, aj, cj, e2, e3⟩ := h2 j hj
  refine ⟨by rw [Nat.zero_add]; exact own_cell h1 _ _ e1, aj, cj, by rw [Nat.zero_add]; exact own_cell h1 _ _ e2, own_cap e3, ?_⟩
  obtain ⟨ao2, cap2, e4, hn2, hg2⟩ := own_shape e3
  simp only [Value.slice.injEq, true_and] at e4
  obtain ⟨rfl, rfl⟩ := e4
  refine ⟨rfl, hn2, ?_⟩
  rcases hg2 with hg2 | ⟨g2, rfl, hlt2, _⟩
  · exact .inl hg2
  refine .inr ⟨g2, 0, rfl, hlt2, fun i hi => ?_⟩
  rw [Nat.zero_add]
  have hi' : (L.getD j noTy).2[i]? = some ((L.getD j noTy).2.getD i .empty) := by
    rw [List.getD_eq_getElem?_getD (l := (L.getD j noTy).2), List.getElem?_eq_getElem hi]; rfl
  exact own_cell e3 _ _ (by unfold strsV; rw [List.getElem?_map, hi']; rfl)

theorem new2 (w : World) (x y : Value) (t : TypeId) (j : Nat) (u : Value) (h : [x, y][j]? = some u) : (w.alloc (.cells #[x, y] t)).cell? ((⟨w.heap.size, 0, none⟩ : Addr).add j) = some u := by
  rw [Go.WideShapes.add_plain, Nat.zero_add, World.cell?_alloc_new]
  simpa using h
theorem getD_take {α : Type} (l : List α) (k j : Nat) (d : α) (h : j < k) : (l.take k).getD j d = l.getD j d := by
  simp [List.getD, List.getElem?_take, h]
/-- A row of strings is not the row of types. -/
theorem row_apart {w : World} {base : Nat} {v : Value} {n : Nat} {xs : List Value} (h : w.ownsRow base 35 2 v n xs) {g : Nat} {cur : Array Value} (hg : w.heap[g]? = some (.cells cur 9 (0, 0))) : some g ≠ v.ownBlock := by
  rcases h.2 with ⟨rfl, _⟩ | ⟨g', cap', cur', rfl, hb, hh, r⟩
  · simp [Value.ownBlock]
  · simp only [Value.ownBlock, ne_eq, Option.some.injEq]
    intro e
    subst e
    rw [hg] at hh
    simp at hh
theorem infoS : (Tryd.prog.info? 9).map (fun i => (i.zero, i.size, i.bytes)) = some (some (.string ⟨#[]⟩), 1, 16) := by kernel_rfl
theorem info_partsS : ∃ i, Tryd.prog.info? 9 = some i ∧ i.zero = some (.string ⟨#[]⟩) ∧ i.size = 1 ∧ i.bytes = 16 := by
  have h := infoS
  cases hq : Tryd.prog.info? 9 with
  | none => simp [hq] at h
  | some i => simp [hq] at h; exact ⟨i, rfl, h.1, h.2.1, h.2.2⟩
theorem infoT : (Tryd.prog.info? 35).map (fun i => (i.zero, i.size, i.bytes)) = some (some (.agg #[.string ⟨#[]⟩, .slice none 0 0]), 2, 40) := by kernel_rfl
theorem info_partsT : ∃ i, Tryd.prog.info? 35 = some i ∧ i.zero = some (.agg #[.string ⟨#[]⟩, .slice none 0 0]) ∧ i.size = 2 ∧ i.bytes = 40 := by
  have h := infoT
  cases hq : Tryd.prog.info? 35 with
  | none => simp [hq] at h
  | some i => simp [hq] at h; exact ⟨i, rfl, h.1, h.2.1, h.2.2⟩

set_option maxHeartbeats 2000000 in
theorem twin_any (ao : Option Addr) (n cap : Nat) (L : List Ty) (w : World) (h : IsTypes w ao n L) (hr : n * 40 ≤ 140737488351232) (hrs : ∀ j, (L.getD j noTy).2.length * 16 ≤ 140737488351232) :
    Calls Tryd.prog 13 #[.agg #[.slice ao n cap]] w fun e w' => ∃ v, e = .returned (.agg #[v]) ∧ OwnT w.heap.size w' v n L ∧ Below w.heap.size w w' := by
  obtain ⟨i0, hi, hz0, hz1, hz2⟩ := info_partsS
  obtain ⟨i3, ti, tz0, tz1, tz2⟩ := info_partsT
  have hL := h.1
  have hn := h.2.1
  go_enter Tryd.func13, Tryd.ntmps13
  go_wp2
  have Bw := galloc (galloc (galloc (Below.refl w.heap.size w) (.cells #[.slice ao n cap] 24)) (.cells #[.slice none 0 0] 24)) (.cells #[.slice none 0 0] 24)
  have O1 := ((One.new w (.slice ao n cap) 24).alloc (.cells #[.slice none 0 0] 24)).alloc (.cells #[.slice none 0 0] 24)
  have O2 := (One.new (w.alloc (.cells #[.slice ao n cap] 24)) (.slice none 0 0) 24).alloc (.cells #[.slice none 0 0] 24)
  have O3 := One.new ((w.alloc (.cells #[.slice ao n cap] 24)).alloc (.cells #[.slice none 0 0] 24)) (.slice none 0 0) 24
  have z1 : (w.alloc (.cells #[.slice ao n cap] 24)).heap.size = w.heap.size + 1 := by simp
  have z2 : ((w.alloc (.cells #[.slice ao n cap] 24)).alloc (.cells #[.slice none 0 0] 24)).heap.size = w.heap.size + 1 + 1 := by simp
  rw [z1] at O2
  rw [z2] at O3
  generalize hV : ((w.alloc (.cells #[.slice ao n cap] 24)).alloc (.cells #[.slice none 0 0] 24)).alloc (.cells #[.slice none 0 0] 24) = V at Bw O1 O2 O3 ⊢
  have hVs : V.heap.size = w.heap.size + 1 + 1 + 1 := by rw [← hV]; simp
  clear hV z1 z2
  go_loopw [4] (fun i wr => ∃ (k : Nat) (v : Value), k ≤ n ∧ i = .int .i64 k ∧ One wr w.heap.size (.slice ao n cap) 24 ∧ One wr (w.heap.size + 1) (.slice none 0 0) 24 ∧ One wr (w.heap.size + 1 + 1) v 24 ∧ OwnT V.heap.size wr v k (L.take k) ∧ Below w.heap.size w wr ∧ V.heap.size ≤ wr.heap.size) (fun i _ => n - (intOf i).toNat)
  case atStart => exact ⟨0, .slice none 0 0, Nat.zero_le _, rfl, O1, O2, O3, ⟨rfl, [], World.ownsRow_nil _ _ _ _, fun j hj => absurd hj (Nat.not_lt_zero _)⟩, Bw, Nat.le_refl _⟩
  case round =>
    obtain ⟨k, v, hk, rfl, P1, P2, P3, T, G, hsz⟩ := hrel
    obtain ⟨wo, rfl⟩ : ∃ wo, wo = wr := ⟨_, rfl⟩
    have p1 := P1.at0
    by_cases hlt : k < n
    · obtain ⟨_, _, q4⟩ := h.keep G
      rcases q4 with q4 | ⟨b, off, eb, hb, hcb⟩
      · omega
      subst eb
      obtain ⟨f1, aj, cj, f2, _, hs⟩ := hcb k hlt
      obtain ⟨x, hx⟩ : ∃ x, x = (L.getD k noTy).1 := ⟨_, rfl⟩
      obtain ⟨ss, hss⟩ : ∃ ss, ss = (L.getD k noTy).2 := ⟨_, rfl⟩
      have hrk := hrs k
      rw [← hx] at f1
      rw [← hss] at f2 hs hrk
      obtain ⟨m, hm⟩ : ∃ m, ss.length = m := ⟨_, rfl⟩
      rw [hm] at f2 hs hrk
      have HX : Hid (L.getD k noTy = (x, ss)) := by show _ = _; rw [hx, hss]
      clear hcb hx hss
      go_upto_region 6 with fail
      have B5 := galloc (Below.refl wo.heap.size wo) (.cells #[.string x, .slice none 0 0] 35)
      have W5 := Two.new wo (.string x) (.slice none 0 0) 35
      generalize hw5 : wo.alloc (.cells #[.string x, .slice none 0 0] 35) = w5 at B5 W5 ⊢
      have hw5s : w5.heap.size = wo.heap.size + 1 := by rw [← hw5]; simp
      clear hw5 f1
      go_wp2
      go_loopw [6] (fun i wq => ∃ (k2 : Nat) (v2 : Value), k2 ≤ m ∧ i = .int .i64 k2 ∧ Two wq wo.heap.size (.string x) v2 35 ∧ wq.ownsRow w5.heap.size 9 1 v2 k2 (strsV (ss.take k2)) ∧ Below wo.heap.size wo wq ∧ w5.heap.size ≤ wq.heap.size) (fun i _ => m - (intOf i).toNat)
      case atStart => exact ⟨0, .slice none 0 0, Nat.zero_le _, rfl, W5, World.ownsRow_nil _ _ _ _, B5, Nat.le_refl _⟩
      case round =>
        obtain ⟨k2, v2, hk2, rfl, U, R, G2, hsz2⟩ := hrel
        have p1' := (P1.keep G2).at0
        have f2' := (G2.cell (p := ⟨b, off + k * 2 + 1, none⟩) hb).trans f2
        by_cases hlt2 : k2 < m
        · obtain ⟨_, r2, r4⟩ := hs.keep G2
          rcases r4 with r4 | ⟨b2, off2, eb2, hb2, hcb2⟩
          · omega
          subst eb2
          obtain ⟨y, hy⟩ : ∃ y, y = ss.getD k2 .empty := ⟨_, rfl⟩
          have f3 := hcb2 k2 hlt2
          rw [← hy] at f3
          have HY : Hid (y = ss.getD k2 .empty) := hy
          have u0 := U.at0
          have u1 := U.at1
          have u2 := U.free 1
          have u3 : ∀ o, (wr.alloc o).cell? ⟨wo.heap.size, 1, none⟩ = some v2 := fun o => (U.alloc o).at1
          clear hcb2 hy p1 f2
          have hone : ∀ u ∈ [Value.string y], u.oneCell' = true := by intro u hu; simp at hu; subst hu; rfl
          go_upto_region 9 with fail
          go_region_law (refine step_append_lies _ rfl (.tmp 33) (.tmp 43) 33 rfl w5.heap.size 9 i0 (.string ⟨#[]⟩) 1 16 Tryd.underlying33 hi hz0 hz1 hz2 rfl (by decide) v2 k2 (strsV (ss.take k2)) (by simp [Act.eval, Act.put]) (R.drew.alloc _) ⟨wr.heap.size, 0, none⟩ 1 1 [.string y] (by simp [Act.eval, Act.put]) rfl (cell_one_new _ _ _) hone (by decide) (by unfold maxLen; omega) (by omega) (by simp; omega) _ rfl ?_; intro g c3 w6 hown6 hgrow6 hat6 hlt6; have U6 : Two w6 wo.heap.size (.string x) v2 35 := (hgrow6.block wo.heap.size (by have := U.lt; simp; omega) (fun e => by have := (R.lt _ e.symm).1; omega)).trans (U.alloc _); have t1 := U6.at1; have t2 := U6.free 1)
          all_goals
            have U7 := U6.set1 (.slice (some ⟨g, 0, none⟩) (k2 + 1) c3)
            have R7 : (w6.setCell ⟨wo.heap.size, 1, none⟩ (.slice (some ⟨g, 0, none⟩) (k2 + 1) c3)).ownsRow w5.heap.size 9 1 (.slice (some ⟨g, 0, none⟩) (k2 + 1) c3) (k2 + 1) (strsV (ss.take (k2 + 1))) := by
              rw [← strsV_more ss k2 (by omega), ← HY.out]
              exact own_of_block hown6 (fun g' _ hg' _ => Below.heap_setCell w6 _ _ g' (by show g' ≠ wo.heap.size; omega))
            have G7 : Below wo.heap.size wo (w6.setCell ⟨wo.heap.size, 1, none⟩ (.slice (some ⟨g, 0, none⟩) (k2 + 1) c3)) :=
              gset ((G2.alloc G2.size _).drew.grown hgrow6 (by have := G2.size; simp; omega) (fun r e => by have := (R.lt _ e).1; omega)) (Nat.le_refl _) _
            have s7 : w5.heap.size ≤ (w6.setCell ⟨wo.heap.size, 1, none⟩ (.slice (some ⟨g, 0, none⟩) (k2 + 1) c3)).heap.size := by
              have := hgrow6.size
              simp at this ⊢
              omega
            generalize w6.setCell ⟨wo.heap.size, 1, none⟩ (.slice (some ⟨g, 0, none⟩) (k2 + 1) c3) = w7 at U7 R7 G7 s7 ⊢
            clear hown6 hgrow6 hat6 hlt6 U6 t1 t2 u0 u1 u2 u3 U R G2 f2' f3 p1'
            go_wp2
            go_roundw
            case rel => exact ⟨k2 + 1, _, by omega, by go_num, U7, R7, G7, s7⟩
            case measure => simp [intOf]; omega
        · obtain rfl : k2 = m := by omega
          rw [List.take_of_length_le (by omega)] at R
          obtain ⟨a5, c5, rfl, hv5, _⟩ := own_shape R
          have P3' := P3.keep G2
          have p3 := P3'.at0
          have p4 := P3'.free
          have u0 := U.at0
          have u1 := U.at1
          have T' := T.keep G2
          obtain ⟨hTl, cells, C1, C2⟩ := T'
          have hone : ∀ u ∈ [Value.string x, .slice a5 k2 c5], u.oneCell' = true := by intro u hu; simp at hu; rcases hu with rfl | rfl <;> rfl
          clear p1 f2
          go_upto_region 4 with (at_builtin; refine wpList_append_lies _ rfl (.tmp 47) (.tmp 49) 22 rfl V.heap.size 35 i3 (.agg #[.string ⟨#[]⟩, .slice none 0 0]) 2 40 Tryd.underlying22 ti tz0 tz1 tz2 rfl (by decide) v k cells rfl (C1.alloc _) ⟨wr.heap.size, 0, none⟩ 1 1 [.string x, .slice a5 k2 c5] rfl rfl (new2 _ _ _ _) hone (by decide) ?c2 ?c3 ?c4 _ rfl ?_)
          case c2 => unfold maxLen; omega
          case c3 => omega
          case c4 => simp; omega
          intro g c6 w6 hown6 hgrow6 hat6 hlt6
          rw [← hVs] at hown6
          have hB3 : w.heap.size + 1 + 1 < wr.heap.size := P3'.lt
          have P6 : One w6 (w.heap.size + 1 + 1) v 24 := (hgrow6.block _ (by simp; omega) (fun e => by have := (C1.lt _ e.symm).1; omega)).trans (P3'.alloc _)
          have t1 := P6.at0
          have t2 := P6.free
          have far : ∀ (g' : Nat) (cur : Array Value), V.heap.size ≤ g' → wr.heap[g']? = some (.cells cur 9 (0, 0)) → (w6.setCell ⟨w.heap.size + 1 + 1, 0, none⟩ (.slice (some ⟨g, 0, none⟩) (k + 1) c6)).heap[g']? = wr.heap[g']? := by
            intro g' cur h1 h2
            have h3 := lt_of_block h2
            rw [Below.heap_setCell w6 _ _ g' (by show g' ≠ w.heap.size + 1 + 1; omega), hgrow6.block g' (by simp; omega) (row_apart C1 h2), Below.heap_alloc _ _ _ h3]
          have T8 : OwnT V.heap.size (w6.setCell ⟨w.heap.size + 1 + 1, 0, none⟩ (.slice (some ⟨g, 0, none⟩) (k + 1) c6)) (.slice (some ⟨g, 0, none⟩) (k + 1) c6) (k + 1) (L.take (k + 1)) := by
            refine ⟨by simp; omega, cells ++ [.string x, .slice a5 k2 c5], own_of_block hown6 (fun g' _ hg' _ => Below.heap_setCell w6 _ _ g' (by show g' ≠ w.heap.size + 1 + 1; omega)), fun j hj => ?_⟩
            rw [getD_take L (k + 1) j noTy hj]
            have hcl : cells.length = k * 2 := C1.1
            rcases Nat.lt_or_ge j k with e | e
            · obtain ⟨d1, aj', cj', d2, d3⟩ := C2 j e
              rw [getD_take L k j noTy e] at d1 d2 d3
              exact ⟨by rw [List.getElem?_append_left (by omega)]; exact d1, aj', cj', by rw [List.getElem?_append_left (by omega)]; exact d2, own_of_block d3 far⟩
            · obtain rfl : j = k := by omega
              rw [HX.out]
              refine ⟨by rw [List.getElem?_append_right (by omega), hcl]; simp, a5, c5, ?_, ?_⟩
              · rw [List.getElem?_append_right (by omega), hcl]; simp [hm]
              · simp only [hm]
                exact own_of_block (own_mono R (by omega)) far
          have P18 : One (w6.setCell ⟨w.heap.size + 1 + 1, 0, none⟩ (.slice (some ⟨g, 0, none⟩) (k + 1) c6)) w.heap.size (.slice (some ⟨b, off, none⟩) n cap) 24 :=
            (Below.heap_setCell w6 _ _ _ (by show w.heap.size ≠ w.heap.size + 1 + 1; omega)).trans ((hgrow6.block _ (by simp; omega) (fun e => by have := (C1.lt _ e.symm).1; omega)).trans ((P1.keep G2).alloc _))
          have P28 : One (w6.setCell ⟨w.heap.size + 1 + 1, 0, none⟩ (.slice (some ⟨g, 0, none⟩) (k + 1) c6)) (w.heap.size + 1) (.slice none 0 0) 24 :=
            (Below.heap_setCell w6 _ _ _ (by show w.heap.size + 1 ≠ w.heap.size + 1 + 1; omega)).trans ((hgrow6.block _ (by simp; omega) (fun e => by have := (C1.lt _ e.symm).1; omega)).trans ((P2.keep G2).alloc _))
          have P38 : One (w6.setCell ⟨w.heap.size + 1 + 1, 0, none⟩ (.slice (some ⟨g, 0, none⟩) (k + 1) c6)) (w.heap.size + 1 + 1) (.slice (some ⟨g, 0, none⟩) (k + 1) c6) 24 := P6.set _
          have G8 : Below w.heap.size w (w6.setCell ⟨w.heap.size + 1 + 1, 0, none⟩ (.slice (some ⟨g, 0, none⟩) (k + 1) c6)) :=
            gset ((G.trans (G2.mono G.size)).alloc (by omega) _ |>.grown hgrow6 (by simp; omega) (fun r e => by have := (C1.lt _ e).1; omega)) (by show w.heap.size ≤ w.heap.size + 1 + 1; omega) _
          have s8 : V.heap.size ≤ (w6.setCell ⟨w.heap.size + 1 + 1, 0, none⟩ (.slice (some ⟨g, 0, none⟩) (k + 1) c6)).heap.size := by
            have := hgrow6.size
            simp at this ⊢
            omega
          clear far hown6 hgrow6 hat6 hlt6 C1 C2 R U
          go_wp2
          go_roundw
          case rel => exact ⟨k + 1, _, by omega, by go_num, P18, P28, P38, T8, G8, s8⟩
          case measure => simp [intOf]; omega
    · obtain rfl : k = n := by omega
      rw [List.take_of_length_le (by omega)] at T
      obtain ⟨a2, c2, rfl, _⟩ := T.types
      have p2 := P2.at0
      have p3 := P3.at0
      have p4 := P2.free
      go_wp2
      refine bodyPost_ret (v := .agg #[.slice a2 k c2]) (by simp [results, Tryd.results13, go_sem, p2, p4]) rfl ⟨_, rfl, (T.other (by show w.heap.size + 1 < _; omega) _).mono (by omega), gset G (by show w.heap.size ≤ w.heap.size + 1; omega) _⟩

end Go.Proofs.YtkpnnofonocilaaDoor
