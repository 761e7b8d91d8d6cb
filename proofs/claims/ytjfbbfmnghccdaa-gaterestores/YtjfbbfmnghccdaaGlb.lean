/- named, above, in, rises: what the gate's statements count in lists. -/
import Derived.Test.YtjfbbfmnghccdaaGla
import Derived.Test.YtjfbbfmnghccdaaEvf
namespace Go.Proofs.Ytjfbbfmnghccdaa
open Go.RowKit Go.BigFrame Go.Maps
set_option linter.unusedVariables false
set_option linter.unusedSimpArgs false

def cntN (l : List Ev) (ts id : Int) : Nat := (l.filter fun y => decide (y.ts = ts ∧ y.id = id)).length
theorem cntN_snoc (l : List Ev) (x : Ev) (ts id : Int) : cntN (l ++ [x]) ts id = cntN l ts id + if x.ts = ts ∧ x.id = id then 1 else 0 := by
  unfold cntN
  rw [List.filter_append, List.length_append]
  by_cases h : x.ts = ts ∧ x.id = id
  · rw [if_pos h]; simp [List.filter, h.1, h.2]
  · rw [if_neg h]; simp [List.filter, h]
theorem cntN_pos (l : List Ev) (ts id : Int) : decide (0 < cntN l ts id) = hasN l ts id := by
  unfold cntN hasN
  rw [Bool.eq_iff_iff, decide_eq_true_eq, List.any_eq_true, List.length_pos_iff_exists_mem]
  constructor
  · rintro ⟨y, hy⟩; exact ⟨y, (List.mem_filter.1 hy).1, (List.mem_filter.1 hy).2⟩
  · rintro ⟨y, h1, h2⟩; exact ⟨y, List.mem_filter.2 ⟨h1, h2⟩⟩
theorem cntN_le (l : List Ev) (ts id : Int) : cntN l ts id ≤ l.length := List.length_filter_le _ _
def cntA (l : List Ev) (m : Int) : Nat := (l.filter fun y => decide (m < y.ts)).length
theorem cntA_snoc (l : List Ev) (x : Ev) (m : Int) : cntA (l ++ [x]) m = cntA l m + if m < x.ts then 1 else 0 := by
  unfold cntA
  rw [List.filter_append, List.length_append]
  by_cases h : m < x.ts
  · rw [if_pos h]; simp [List.filter, h]
  · rw [if_neg h]; simp [List.filter, h]
theorem cntA_le (l : List Ev) (m : Int) : cntA l m ≤ l.length := List.length_filter_le _ _
set_option maxRecDepth 100000 in
set_option maxHeartbeats 4000000 in
theorem named_any (ao : Option Addr) (cap : Nat) (l : List Ev) (e : Ev) (w : World) (F : Flat w ao (fl evC l)) (hl : l.length ≤ 9000000000000000000) :
    Calls Try.prog 26 #[.slice ao l.length cap, .agg (evC e)] w fun r w' => r = .returned (.int .i64 (cntN l e.ts e.id : Int)) ∧ Below w.heap.size w w' := by
  have B0 := galloc (Below.refl w.heap.size w) (.cells (evC e) 29)
  have b3 := Bk.new w (evC e) 29
  go_enter Try.func26, Try.ntmps26
  go_upto_region 3 with fail
  generalize w.alloc _ = V at *
  go_loopw [5, 6] (fun vn vi wr => ∃ i : Nat, i ≤ l.length ∧ vi = .int .i64 (i : Int) ∧ vn = .int .i64 (cntN (l.take i) e.ts e.id : Int) ∧ Below V.heap.size V wr) (fun _ vi _ => l.length - (intOf vi).toNat)
  case atStart => exact ⟨0, Nat.zero_le _, rfl, rfl, Below.refl _ _⟩
  case round =>
    obtain ⟨i, hi, rfl, rfl, B⟩ := hrel
    have BB := gtrans B0 B
    have hcl := cntN_le (l.take i) e.ts e.id
    have htl : (l.take i).length ≤ l.length := by rw [List.length_take]; omega
    by_cases hlt : i < l.length
    · obtain ⟨g, o, rfl, hgl, _⟩ := (F.keep BB).form (by rw [fl_len ev_size]; omega)
      have rx := flat_range ev_size zrEv (F.keep BB) i hlt
      have hsn := cntN_snoc (l.take i) (l.getD i zrEv) e.ts e.id
      rw [← take_snoc l zrEv i hlt] at hsn
      generalize l.getD i zrEv = x at *
      have b4 := b3.keep B
      have q1 : (i : Int) < (l.length : Int) := by omega
      have d0 : wr.cell? ⟨g, o + i * 11, none⟩ = some (.int .i64 x.ts) := by have := rx 0 _ rfl; simpa using this
      have d1 : wr.cell? ⟨g, o + i * 11 + 1, none⟩ = some (.int .u64 x.id) := rx 1 _ rfl
      have e0 : wr.cell? ⟨w.heap.size, 0, none⟩ = some (.int .i64 e.ts) := cell_of_row wr _ 0 _ _ _ b4
      have e1 : wr.cell? ⟨w.heap.size, 1, none⟩ = some (.int .u64 e.id) := cell_of_row wr _ 1 _ _ _ b4
      have x0 := fun z : Ext wr => (z.cell _ _ hgl).trans d0
      have x1 := fun z : Ext wr => (z.cell _ _ hgl).trans d1
      have y0 := fun z : Ext wr => (z.cell _ _ b4.lt).trans e0
      have y1 := fun z : Ext wr => (z.cell _ _ b4.lt).trans e1
      have hne0 : Nonempty (Ext wr) := ⟨⟨_, Below.refl _ _⟩⟩
      have HS : Hid (cntN (l.take (i + 1)) e.ts e.id = cntN (l.take i) e.ts e.id + if x.ts = e.ts ∧ x.id = e.id then 1 else 0) := hsn
      have HT : Hid (i < l.length) := hlt
      have hnn : (cntN (l.take i) e.ts e.id : Int) ≤ 9000000000000000000 := by omega
      generalize cntN (l.take i) e.ts e.id = nn at *
      clear hsn d0 d1 e0 e1 hlt hcl
      by_cases h1 : x.ts = e.ts
      · by_cases h2 : x.id = e.id
        · have g1 : (x.ts == e.ts) = true := beq_iff_eq.2 h1
          have g2 : (x.id == e.id) = true := beq_iff_eq.2 h2
          have HN : Hid (cntN (l.take (i + 1)) e.ts e.id = nn + 1) := by have := HS.out; rw [if_pos ⟨h1, h2⟩] at this; exact this
          clear h1 h2 HS
          go_upto_region 5 with fail
          refine wp_region_ext (by kernel_rfl) (by kernel_rfl) ?_
          repeat go_big_quiet_step (fail)
          refine wpQuiet_nil ?_
          intro _ hw'
          obtain ⟨n1, hw''⟩ := hw'
          subst hw''
          go_wp2
          go_roundw
          case rel => have hlt : i < l.length := HT; exact ⟨i + 1, by omega, by go_num, by rw [HN.out]; go_num, gtrans B n1.h⟩
          case measure => have hlt : i < l.length := HT; simp [intOf]; omega
        · have g1 : (x.ts == e.ts) = true := beq_iff_eq.2 h1
          have g2 : (x.id == e.id) = false := beq_eq_false_iff_ne.2 h2
          have HN : Hid (cntN (l.take (i + 1)) e.ts e.id = nn) := by have := HS.out; rw [if_neg (fun h => h2 h.2)] at this; exact this
          clear h1 h2 HS
          go_upto_region 5 with fail
          refine wp_region_ext (by kernel_rfl) (by kernel_rfl) ?_
          repeat go_big_quiet_step (fail)
          refine wpQuiet_nil ?_
          intro _ hw'
          obtain ⟨n1, hw''⟩ := hw'
          subst hw''
          go_wp2
          go_roundw
          case rel => have hlt : i < l.length := HT; exact ⟨i + 1, by omega, by go_num, by rw [HN.out], gtrans B n1.h⟩
          case measure => have hlt : i < l.length := HT; simp [intOf]; omega
      · have g1 : (x.ts == e.ts) = false := beq_eq_false_iff_ne.2 h1
        have HN : Hid (cntN (l.take (i + 1)) e.ts e.id = nn) := by have := HS.out; rw [if_neg (fun h => h1 h.1)] at this; exact this
        clear h1 HS
        go_upto_region 5 with fail
        refine wp_region_ext (by kernel_rfl) (by kernel_rfl) ?_
        repeat go_big_quiet_step (fail)
        refine wpQuiet_nil ?_
        intro _ hw'
        obtain ⟨n1, hw''⟩ := hw'
        subst hw''
        go_wp2
        go_roundw
        case rel => have hlt : i < l.length := HT; exact ⟨i + 1, by omega, by go_num, by rw [HN.out], gtrans B n1.h⟩
        case measure => have hlt : i < l.length := HT; simp [intOf]; omega
    · obtain rfl : i = l.length := by omega
      rw [List.take_length]
      clear hlt
      go_wp2
      go_ret
      exact ⟨rfl, BB⟩
set_option maxRecDepth 100000 in
set_option maxHeartbeats 4000000 in
theorem in_true (ao : Option Addr) (cap : Nat) (l : List Ev) (e : Ev) (w : World) (F : Flat w ao (fl evC l)) (hl : l.length ≤ 9000000000000000000) (hm : e ∈ l) :
    Calls Try.prog 32 #[.slice ao l.length cap, .agg (evC e)] w fun r w' => r = .returned (.bool true) ∧ Below w.heap.size w w' := by
  obtain ⟨j, hj, hje⟩ := List.getElem_of_mem hm
  have hje' : l.getD j zrEv = e := by rw [getD_of_lt l j hj]; exact hje
  have B0 := galloc (Below.refl w.heap.size w) (.cells (evC e) 29)
  have b3 := Bk.new w (evC e) 29
  go_enter Try.func32, Try.ntmps32
  go_upto_region 2 with fail
  generalize w.alloc _ = V at *
  go_loopw [5] (fun vi wr => ∃ i : Nat, i ≤ j ∧ vi = .int .i64 (i : Int) ∧ Below V.heap.size V wr) (fun vi _ => l.length - (intOf vi).toNat)
  case atStart => exact ⟨0, Nat.zero_le _, rfl, Below.refl _ _⟩
  case round =>
    obtain ⟨i, hi, rfl, B⟩ := hrel
    have BB := gtrans B0 B
    have hlt : i < l.length := by omega
    obtain ⟨g, o, rfl, hgl, _⟩ := (F.keep BB).form (by rw [fl_len ev_size]; omega)
    have rx := flat_range ev_size zrEv (F.keep BB) i hlt
    obtain ⟨x, hx⟩ : ∃ x, l.getD i zrEv = x := ⟨_, rfl⟩
    rw [hx] at rx
    have b4 := b3.keep B
    have q1 : (i : Int) < (l.length : Int) := by omega
    have hne0 : Nonempty (Ext wr) := ⟨⟨_, Below.refl _ _⟩⟩
    have HT : Hid (i < l.length) := hlt
    have HN : Hid (evB x e = false → i < j) := fun h => by
      rcases Nat.lt_or_ge i j with h1 | h1
      · exact h1
      · obtain rfl : i = j := by omega
        rw [hje'] at hx
        subst hx
        rw [evB_self] at h
        cases h
    clear hlt hx hje' hje
    go_upto_region 4 with fail
    refine wp_region_ext (by kernel_rfl) (by kernel_rfl) ?_
    repeat (first
      | (refine wpQuiet_load_mid rfl 29 (.tmp 14) rfl g (o + i * 11) rfl (evC x) _ (fun X hX => by obtain ⟨nx, rfl⟩ := hX; exact rangeAt_keep rx nx.h) Try.underlying29 rfl infoEv _ rfl ?_; simp only [Act.put, List.setIfInBounds_toArray, List.set_cons_succ, List.set_cons_zero])
      | (refine wpQuiet_load_mid rfl 29 (.tmp 3) rfl w.heap.size 0 rfl (evC e) _ (fun X hX => by obtain ⟨nx, rfl⟩ := hX; exact rangeAt_keep b4.range nx.h) Try.underlying29 rfl infoEv _ rfl ?_; simp only [Act.put, List.setIfInBounds_toArray, List.set_cons_succ, List.set_cons_zero])
      | (refine quiet_eql_ev rfl (.tmp 15) (.tmp 16) rfl x e rfl rfl _ rfl ?_; simp only [Act.put, List.setIfInBounds_toArray, List.set_cons_succ, List.set_cons_zero])
      | go_big_quiet_step (fail))
    refine wpQuiet_nil ?_
    intro _ hw'
    obtain ⟨n1, hw''⟩ := hw'
    subst hw''
    cases hb : evB x e with
    | true =>
      go_wp2
      go_ret
      exact ⟨rfl, gtrans BB n1.h⟩
    | false =>
      go_wp2
      go_roundw
      case rel => exact ⟨i + 1, HN.out hb, by go_num, gtrans B n1.h⟩
      case measure => have hlt : i < l.length := HT; simp [intOf]; omega
end Go.Proofs.Ytjfbbfmnghccdaa
