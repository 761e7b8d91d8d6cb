/- What the statements of the pile ask of lists of events. -/
import Derived.Test.YtjfbbfmnghccdaaEve
import Derived.Test.YtjfbbfmnghccdaaHpl
namespace Go.Proofs.Ytjfbbfmnghccdaa
open Go.RowKit Go.BigFrame
set_option linter.unusedVariables false
set_option linter.unusedSimpArgs false

set_option maxHeartbeats 1000000 in
theorem lawBefore_any (x y : Ev) (w : World) :
    Calls Try.prog 44 #[.agg (evC x), .agg (evC y)] w fun e w' => e = .returned (.bool (evLt x y)) ∧ Below w.heap.size w w' := by
  obtain ⟨v, hv⟩ : ∃ v, evLt x y = v := ⟨_, rfl⟩
  rw [hv]
  have HV : Hid (decide (x.ts < y.ts ∨ x.ts = y.ts ∧ x.id < y.id) = v) := hv
  clear hv
  unfold evC
  go_enter Try.func44, Try.ntmps44
  go_wp2
  all_goals
    have hv : decide (x.ts < y.ts ∨ x.ts = y.ts ∧ x.id < y.id) = v := HV
    go_ret
    refine ⟨?_, galloc (galloc (Below.refl _ _) _) _⟩
    subst hv
    refine congrArg (fun b => Ending.returned (Value.bool b)) ?_
    first | exact (decide_eq_true (by omega)).symm | exact (decide_eq_decide.2 (by omega)) | (rw [decide_eq_false (show ¬ x.ts < y.ts by omega), decide_eq_false (by omega)])
set_option maxHeartbeats 2000000 in
/-- Rows that hold the same are the same. -/
theorem sameEvents_true (a b : Option Addr) (ca cb : Nat) (l : List Ev) (w : World) (A : Flat w a (fl evC l)) (B : Flat w b (fl evC l)) (hl : l.length ≤ 9223372036854775807) :
    Calls Try.prog 14 #[.slice a l.length ca, .slice b l.length cb] w fun e w' => e = .returned (.bool true) ∧ Below w.heap.size w w' := by
  go_enter Try.func14, Try.ntmps14
  go_wp2
  go_loopw [5] (fun vi wr => ∃ i : Nat, i ≤ l.length ∧ vi = .int .i64 (i : Int) ∧ Below w.heap.size w wr) (fun vi _ => l.length - (intOf vi).toNat)
  case atStart => exact ⟨0, Nat.zero_le _, rfl, Below.refl _ _⟩
  case round =>
    obtain ⟨i, hi, rfl, G⟩ := hrel
    by_cases hlt : i < l.length
    · obtain ⟨g, o, rfl, hgl, _⟩ := (A.keep G).form (by rw [fl_len ev_size]; omega)
      obtain ⟨g2, o2, rfl, hgl2, _⟩ := (B.keep G).form (by rw [fl_len ev_size]; omega)
      have ra := flat_range ev_size zeroE (A.keep G) i hlt
      have rb := flat_range ev_size zeroE (B.keep G) i hlt
      generalize l.getD i zeroE = x at *
      have q1 : (i : Int) < (l.length : Int) := by omega
      have HT : Hid (i < l.length) := hlt
      have hne0 : Nonempty (Ext wr) := ⟨⟨_, Below.refl _ _⟩⟩
      clear hlt
      go_wp2
      refine wp_region_ext (by kernel_rfl) (by kernel_rfl) ?_
      repeat (first
        | (refine wpQuiet_load_mid rfl 29 (.tmp 19) rfl g (o + i * 11) rfl (evC x) _ (fun X hX => by obtain ⟨nx, rfl⟩ := hX; exact rangeAt_keep ra nx.h) Try.underlying29 rfl infoEv _ rfl ?_; simp only [Act.put, List.setIfInBounds_toArray, List.set_cons_succ, List.set_cons_zero])
        | (refine wpQuiet_load_mid rfl 29 (.tmp 23) rfl g2 (o2 + i * 11) rfl (evC x) _ (fun X hX => by obtain ⟨nx, rfl⟩ := hX; exact rangeAt_keep rb nx.h) Try.underlying29 rfl infoEv _ rfl ?_; simp only [Act.put, List.setIfInBounds_toArray, List.set_cons_succ, List.set_cons_zero])
        | (refine quiet_neq_same rfl (.tmp 20) (.tmp 24) 29 rfl evGuard (evC x) (ev_eq x) rfl rfl _ rfl ?_; simp only [Act.put, List.setIfInBounds_toArray, List.set_cons_succ, List.set_cons_zero])
        | go_big_quiet_step (fail))
      refine wpQuiet_nil ?_
      intro _ hw'
      obtain ⟨nx, hw''⟩ := hw'
      subst hw''
      go_wp2
      go_roundw
      case rel => have hlt : i < l.length := HT; exact ⟨i + 1, by omega, by go_num, gtrans G nx.h⟩
      case measure => have hlt : i < l.length := HT; simp [intOf]; omega
    · have hki : ¬ (i : Int) < (l.length : Int) := by omega
      go_wp2
      go_ret
      exact ⟨rfl, G⟩
/-- The list with each event's place in it as its type. -/
def mkd (l : List Ev) : List Ev := l.mapIdx fun i e => { e with typ := (i : Int) }
theorem mkd_len (l : List Ev) : (mkd l).length = l.length := by simp [mkd]
theorem mkd_at (l : List Ev) (i : Nat) (x : Ev) (h : (mkd l)[i]? = some x) : x.typ = (i : Int) := by
  simp only [mkd, List.getElem?_mapIdx, Option.map_eq_some_iff] at h
  obtain ⟨y, _, rfl⟩ := h
  rfl
theorem mkd_snoc (l : List Ev) (x : Ev) : mkd (l ++ [x]) = mkd l ++ [{ x with typ := (l.length : Int) }] := by simp [mkd, List.mapIdx_append]
set_option maxRecDepth 100000 in
set_option maxHeartbeats 4000000 in
theorem marked_any (ao : Option Addr) (cap : Nat) (l : List Ev) (w : World) (F : Flat w ao (fl evC l)) (hl : l.length * 88 ≤ 140737488351232) : Calls Try.prog 8 #[.slice ao l.length cap] w fun e w' => ∃ a c, e = .returned (.slice a l.length c) ∧ w'.ownsRow w.heap.size 29 11 (.slice a l.length c) l.length (fl evC (mkd l)) ∧ Below w.heap.size w w' := by
  go_enter Try.func8, Try.ntmps8
  go_wp2
  go_loopw [3, 4, 5] (fun vo vi _ wr => ∃ i : Nat, i ≤ l.length ∧ vi = .int .i64 (i : Int) ∧ wr.ownsRow w.heap.size 29 11 vo i (fl evC (mkd (l.take i))) ∧ Below w.heap.size w wr) (fun _ vi _ _ => l.length - (intOf vi).toNat)
  case atStart => exact ⟨0, Nat.zero_le _, rfl, World.ownsRow_nil _ _ _ _, Below.refl _ _⟩
  case round =>
    obtain ⟨i, hi, rfl, O, G⟩ := hrel
    by_cases hlt : i < l.length
    · obtain ⟨g, o, rfl, hgl, _⟩ := (F.keep G).form (by rw [fl_len ev_size]; omega)
      have rx := flat_range ev_size zeroE (F.keep G) i hlt
      obtain ⟨x, hx⟩ : ∃ x, l.getD i zeroE = x := ⟨_, rfl⟩
      rw [hx] at rx
      have HX : Hid (l.getD i zeroE = x) := hx
      have HT : Hid (i < l.length) := hlt
      have sx := ev_one1 x
      have q1 : (i : Int) < (l.length : Int) := by omega
      have bz := Bk.new wr #[.int .i64 0, .int .u64 0, .int .i64 0, .int .i64 0, .int .i64 0, .int .i64 0, .int .i64 0, .int .i64 0, .int .i64 0, .int .i64 0, .int .i64 0] 29
      have th := bz.there
      have b7 := bz.setCells (cs' := evC x) rfl
      have G8 := gsetCells (galloc (Below.refl wr.heap.size wr) (.cells #[.int .i64 0, .int .u64 0, .int .i64 0, .int .i64 0, .int .i64 0, .int .i64 0, .int .i64 0, .int .i64 0, .int .i64 0, .int .i64 0, .int .i64 0] 29)) (Nat.le_refl _) (evC x).toList 0
      generalize hX3 : (wr.alloc (.cells #[.int .i64 0, .int .u64 0, .int .i64 0, .int .i64 0, .int .i64 0, .int .i64 0, .int .i64 0, .int .i64 0, .int .i64 0, .int .i64 0, .int .i64 0] 29)).setCells wr.heap.size 0 (evC x).toList = X3 at *
      have y2 : X3.cell? ⟨wr.heap.size, 2, none⟩ = some (.int .i64 x.typ) := cell_of_row X3 _ 2 _ _ _ b7
      have yf := b7.free 2
      have b8 : Bk (X3.setCell ⟨wr.heap.size, 2, none⟩ (.int .i64 (i : Int))) wr.heap.size (evC { x with typ := (i : Int) }) 29 := b7.set 2 _
      have G9 := gset G8 (p := ⟨wr.heap.size, 2, none⟩) (Nat.le_refl _) (.int .i64 (i : Int))
      have HN : Hid ((⟨x.ts, x.id, (i : Int), x.a0, x.a1, x.a2, x.a3, x.a4, x.a5, x.a6, x.a7⟩ : Ev) = { x with typ := (i : Int) }) := rfl
      generalize hX4 : X3.setCell ⟨wr.heap.size, 2, none⟩ (.int .i64 (i : Int)) = X4 at *
      obtain ⟨y, hy⟩ : ∃ y : Ev, { x with typ := (i : Int) } = y := ⟨_, rfl⟩
      rw [hy] at b8
      have HY : Hid ({ x with typ := (i : Int) } = y) := hy
      have r8 := b8.range
      have hbs := evBuildE y X4
      have G10 := gtrans G9 (galloc (Below.refl X4.heap.size X4) (.cells (evC y) 29))
      have bn := Bk.new X4 (evC y) 29
      have hnews := World.news_of_block bn
      generalize hWA : X4.alloc (.cells (evC y) 29) = WA at *
      have OA := own_keep O G10
      have hbw : w.heap.size ≤ WA.heap.size := Nat.le_trans G.size G10.size
      clear hx hlt hy hWA
      go_wp2_with (first
        | (refine wpList_load_mid rfl 29 _ rfl g (o + i * 11) rfl (evC x).toList _ rx Try.underlying29 rfl infoEv ?_)
        | (refine wpList_store_mid rfl 29 _ _ rfl wr.heap.size 0 (evC x) rfl rfl th infoEv sx ?_; rw [hX3])
        | (refine wpList_load_mid rfl 29 _ rfl wr.heap.size 0 rfl (evC y).toList _ r8 Try.underlying29 rfl infoEv ?_; refine wpList_build1 rfl (.tmp 19) rfl rfl hbs ?_; refine wpList_append_one rfl (.tmp 18) (.tmp 20) rfl Try.underlying22 nfEv rfl (by decide) _ w.heap.size i _ rfl OA hbw ⟨X4.heap.size, 0, none⟩ 1 (evC y).toList rfl rfl hnews (ev_ones1 y) (by omega) (by omega) ?_; intro ga ca w6 O6 G6 hg))
      go_roundw
      case rel =>
        have hx : l.getD i zeroE = x := HX
        have hlt : i < l.length := HT
        have hy : { x with typ := (i : Int) } = y := HY
        refine ⟨i + 1, by omega, by go_num, ?_, ?_⟩
        · rw [take_snoc l zeroE i hlt, hx, mkd_snoc, List.length_take, Nat.min_eq_left (by omega), fl_app, hy]
          simpa [fl] using O6
        · exact (gtrans G G10).grown G6 (by have := (gtrans G G10).size; omega) (fun k e => (World.ownsRow.lt OA k e).1)
      case measure => simp [intOf]; omega
    · obtain rfl : i = l.length := by omega
      have hki : ¬ (l.length : Int) < (l.length : Int) := by omega
      rw [List.take_length] at O
      obtain ⟨a, c, rfl, _⟩ := own_form O
      go_wp2
      go_ret
      exact ⟨a, c, rfl, O, G⟩

end Go.Proofs.Ytjfbbfmnghccdaa
