/- unlike: the list without those whose name stands ahead of them. -/
import Derived.Test.YtoheombjbndolaaHll
namespace Go.Proofs.Ytoheombjbndolaa
open Go.RowKit Go.BigFrame
set_option linter.unusedVariables false
set_option linter.unusedSimpArgs false

def dupB (U : List Ev) (x : Ev) : Bool := U.any fun y => y.ts == x.ts && y.id == x.id
theorem dupB_snoc (U : List Ev) (y x : Ev) : dupB (U ++ [y]) x = (dupB U x || (y.ts == x.ts && y.id == x.id)) := by simp [dupB]
/-- No two of one name. -/
def Unl (U : List Ev) : Prop := U.Pairwise fun a b => ¬ (a.ts = b.ts ∧ a.id = b.id)
theorem Unl.snoc {U : List Ev} {x : Ev} (h : Unl U) (hx : dupB U x = false) : Unl (U ++ [x]) := by
  unfold Unl
  rw [List.pairwise_append]
  refine ⟨h, List.pairwise_singleton _ _, fun a ha b hb e => ?_⟩
  rw [List.mem_singleton] at hb
  subst hb
  unfold dupB at hx
  rw [List.any_eq_false] at hx
  exact hx a ha (by simp [e.1, e.2])
set_option maxRecDepth 100000 in
set_option maxHeartbeats 4000000 in
theorem unlike_any (ao : Option Addr) (cap : Nat) (l : List Ev) (w : World) (F : Flat w ao (fl evC l)) (hl : l.length * 88 ≤ 140737488351232) : Calls Try.prog 26 #[.slice ao l.length cap] w fun e w' => ∃ a c U, e = .returned (.slice a (U : List Ev).length c) ∧ w'.ownsRow w.heap.size 30 11 (.slice a U.length c) U.length (fl evC U) ∧ Below w.heap.size w w' ∧ U.length ≤ l.length ∧ Unl U := by
  go_enter Try.func26, Try.ntmps26
  go_wp2
  go_loopw [3, 4, 5, 6] (fun vo vi _ _ wr => ∃ (i : Nat) (U : List Ev), i ≤ l.length ∧ vi = .int .i64 (i : Int) ∧ wr.ownsRow w.heap.size 30 11 vo U.length (fl evC U) ∧ Below w.heap.size w wr ∧ U.length ≤ i ∧ Unl U) (fun _ vi _ _ _ => l.length - (intOf vi).toNat)
  case atStart => exact ⟨0, [], Nat.zero_le _, rfl, World.ownsRow_nil _ _ _ _, Below.refl _ _, Nat.le_refl _, List.Pairwise.nil⟩
  case round =>
    obtain ⟨i, U, hi, rfl, O, G, hU, hN⟩ := hrel
    obtain ⟨au, cu, rfl, _⟩ := own_form O
    by_cases hlt : i < l.length
    · obtain ⟨g, o, rfl, hgl, _⟩ := (F.keep G).form (by rw [fl_len ev_size]; omega)
      have rx := flat_range ev_size zeroE (F.keep G) i hlt
      obtain ⟨x, hx⟩ : ∃ x, l.getD i zeroE = x := ⟨_, rfl⟩
      have HX : Hid (l.getD i zeroE = x) := hx
      clear hx rx
      have q1 : (i : Int) < (l.length : Int) := by omega
      have HT : Hid (i < l.length) := hlt
      clear hlt
      go_upto_region 7 with fail
      go_loopw [5, 6] (fun vt vj wx => ∃ j : Nat, j ≤ U.length ∧ vj = .int .i64 (j : Int) ∧ vt = .bool (dupB (U.take j) x) ∧ wx.ownsRow w.heap.size 30 11 (.slice au U.length cu) U.length (fl evC U) ∧ Below w.heap.size w wx) (fun _ vj _ => U.length - (intOf vj).toNat)
      case atStart => exact ⟨0, Nat.zero_le _, rfl, rfl, O, G⟩
      case round =>
        clear O G hgl
        obtain ⟨j, hj, rfl, rfl, O, G⟩ := hrel
        obtain ⟨_, _, hgg, hgl, _⟩ := (F.keep G).form (by have : i < l.length := HT; rw [fl_len ev_size]; omega)
        cases hgg
        have rx : wr.rangeAt g (o + i * 11) (evC x).toList := by
          have := flat_range ev_size zeroE (F.keep G) i HT
          rwa [show l.getD i zeroE = x from HX] at this
        by_cases hjt : j < U.length
        · obtain ⟨g2, o2, rfl, hgl2, _⟩ := (own_flat O).form (by rw [fl_len ev_size]; omega)
          have ry := flat_range ev_size zeroE (own_flat O) j hjt
          have hsn : dupB (U.take (j + 1)) x = (dupB (U.take j) x || ((U.getD j zeroE).ts == x.ts && (U.getD j zeroE).id == x.id)) := by rw [take_snoc U zeroE j hjt, dupB_snoc]
          generalize U.getD j zeroE = y at *
          have q2 : (j : Int) < (U.length : Int) := by omega
          have y0 : wr.cell? ⟨g2, o2 + j * 11, none⟩ = some (.int .i64 y.ts) := ry 0 _ rfl
          have y1 : wr.cell? ⟨g2, o2 + j * 11 + 1, none⟩ = some (.int .u64 y.id) := ry 1 _ rfl
          have x0 : wr.cell? ⟨g, o + i * 11, none⟩ = some (.int .i64 x.ts) := rx 0 _ rfl
          have x1 : wr.cell? ⟨g, o + i * 11 + 1, none⟩ = some (.int .u64 x.id) := rx 1 _ rfl
          have p0 := fun z : Ext wr => (z.cell _ _ hgl2).trans y0
          have p1 := fun z : Ext wr => (z.cell _ _ hgl2).trans y1
          have p2 := fun z : Ext wr => (z.cell _ _ hgl).trans x0
          have p3 := fun z : Ext wr => (z.cell _ _ hgl).trans x1
          have hne0 : Nonempty (Ext wr) := ⟨⟨_, Below.refl _ _⟩⟩
          have HJ : Hid (j < U.length) := hjt
          clear hjt
          go_upto_region 9 with fail
          cases hd : dupB (U.take j) x with
          | true =>
            rw [hd] at hsn
            refine wp_region_ext (by kernel_rfl) (by kernel_rfl) ?_
            repeat (go_big_quiet_step (fail))
            refine wpQuiet_nil ?_
            intro _ hw'
            obtain ⟨nx, hw''⟩ := hw'
            subst hw''
            go_wp2
            go_roundw
            case rel => exact ⟨j + 1, by have : j < U.length := HJ; omega, by go_num, by rw [hsn]; rfl, own_keep O nx.h, gtrans G nx.h⟩
            case measure => have : j < U.length := HJ; simp [intOf]; omega
          | false =>
            rw [hd] at hsn
            cases h1 : (y.ts == x.ts) with
            | false =>
              rw [h1] at hsn
              refine wp_region_ext (by kernel_rfl) (by kernel_rfl) ?_
              repeat (go_big_quiet_step (fail))
              refine wpQuiet_nil ?_
              intro _ hw'
              obtain ⟨nx, hw''⟩ := hw'
              subst hw''
              go_wp2
              go_roundw
              case rel => exact ⟨j + 1, by have : j < U.length := HJ; omega, by go_num, by rw [hsn]; rfl, own_keep O nx.h, gtrans G nx.h⟩
              case measure => have : j < U.length := HJ; simp [intOf]; omega
            | true =>
              rw [h1] at hsn
              refine wp_region_ext (by kernel_rfl) (by kernel_rfl) ?_
              repeat (go_big_quiet_step (fail))
              refine wpQuiet_nil ?_
              intro _ hw'
              obtain ⟨nx, hw''⟩ := hw'
              subst hw''
              go_wp2
              go_roundw
              case rel => exact ⟨j + 1, by have : j < U.length := HJ; omega, by go_num, by rw [hsn]; rfl, own_keep O nx.h, gtrans G nx.h⟩
              case measure => have : j < U.length := HJ; simp [intOf]; omega
        · obtain rfl : j = U.length := by omega
          have hkj : ¬ (U.length : Int) < (U.length : Int) := by omega
          rw [List.take_length]
          have hbs := evBuildE x wr
          have G10 := galloc (Below.refl wr.heap.size wr) (.cells (evC x) 30)
          have bn := Bk.new wr (evC x) 30
          have hnews := World.news_of_block bn
          generalize hWA : wr.alloc (.cells (evC x) 30) = WA at *
          have OA := own_keep O G10
          have hbw : w.heap.size ≤ WA.heap.size := Nat.le_trans G.size G10.size
          clear hjt hWA
          cases hd : dupB U x with
          | true =>
            go_wp2
            go_roundw
            case rel => have hlt : i < l.length := HT; exact ⟨i + 1, U, by omega, by go_num, O, G, by omega, hN⟩
            case measure => have hlt : i < l.length := HT; simp [intOf]; omega
          | false =>
            go_wp2_with (first
              | (refine wpList_load_mid rfl 30 _ rfl g (o + i * 11) rfl (evC x).toList _ rx Try.underlying30 rfl infoEv ?_; refine wpList_build1 rfl (.tmp 52) rfl rfl hbs ?_; refine wpList_append_one rfl (.tmp 48) (.tmp 53) rfl Try.underlying22 nfEv rfl (by decide) _ w.heap.size U.length _ rfl OA hbw ⟨wr.heap.size, 0, none⟩ 1 (evC x).toList rfl rfl hnews (ev_ones1 x) (by omega) (by omega) ?_; intro gz cz w6 O6 G6 hg))
            go_roundw
            case rel =>
              have hlt : i < l.length := HT
              refine ⟨i + 1, U ++ [x], by omega, by go_num, ?_, ?_, by simp; omega, hN.snoc hd⟩
              · rw [fl_app, List.length_append]
                simpa [fl] using O6
              · exact (gtrans G G10).grown G6 (by have := (gtrans G G10).size; omega) (fun k e => (World.ownsRow.lt OA k e).1)
            case measure => have hlt : i < l.length := HT; simp [intOf]; omega
    · have hki : ¬ (i : Int) < (l.length : Int) := by omega
      go_wp2
      go_ret
      exact ⟨au, cu, U, rfl, O, G, by omega, hN⟩

end Go.Proofs.Ytoheombjbndolaa
