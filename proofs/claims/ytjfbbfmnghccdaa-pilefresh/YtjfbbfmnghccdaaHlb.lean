/- stable: where it says true. -/
import Derived.Test.YtjfbbfmnghccdaaHla
import Derived.Deep.OwnRows
namespace Go.Proofs.Ytjfbbfmnghccdaa
open Go.RowKit Go.BigFrame
set_option linter.unusedVariables false
set_option linter.unusedSimpArgs false

/-- The list in its order: each of its things once, none behind one that it is before, even ones as in the list. -/
structure Stb (S M : List Ev) : Prop where
  len : S.length = M.length
  typ : ∀ i, i < S.length → ∃ k : Nat, k < M.length ∧ (S.getD i zeroE).typ = (k : Int) ∧ M.getD k zeroE = S.getD i zeroE
  inj : ∀ i j, i < S.length → j < S.length → (S.getD i zeroE).typ = (S.getD j zeroE).typ → i = j
  ord : ∀ i, 0 < i → i < S.length → evLt (S.getD i zeroE) (S.getD (i - 1) zeroE) = false ∧ (evLt (S.getD (i - 1) zeroE) (S.getD i zeroE) = true ∨ (S.getD (i - 1) zeroE).typ ≤ (S.getD i zeroE).typ)
/-- Was the place k met ahead of i? -/
def seenB (S : List Ev) (i k : Nat) : Bool := (List.range i).any fun j => (S.getD j zeroE).typ == (k : Int)
theorem seenB_succ (S : List Ev) (i k : Nat) : seenB S (i + 1) k = (seenB S i k || (S.getD i zeroE).typ == (k : Int)) := by
  unfold seenB
  rw [List.range_succ, List.any_append]
  simp
theorem seenB_no {S M : List Ev} (h : Stb S M) (i k : Nat) (hi : i < S.length) (hk : (S.getD i zeroE).typ = (k : Int)) : seenB S i k = false := by
  unfold seenB
  rw [List.any_eq_false]
  intro j hj
  have hj := List.mem_range.1 hj
  intro e
  have e : (S.getD j zeroE).typ = (k : Int) := by simpa using e
  have := h.inj j i (by omega) hi (e.trans hk.symm)
  omega
theorem infoB : (Try.prog.info? 4).map (fun i => (i.zero, i.size, i.bytes)) = some (some (.bool false), 1, 1) := by kernel_rfl
theorem range_typ {w : World} {g o : Nat} {x : Ev} (h : w.rangeAt g o (evC x).toList) : w.cell? ⟨g, o + 2, none⟩ = some (.int .i64 x.typ) := h 2 _ rfl
set_option maxRecDepth 100000 in
set_option maxHeartbeats 4000000 in
theorem stable_true (a b : Option Addr) (ca cb : Nat) (S M : List Ev) (w : World) (A : Flat w a (fl evC S)) (B : Flat w b (fl evC M)) (hS : Stb S M) (hl : M.length * 88 ≤ 140737488351232) :
    Calls Try.prog 13 #[.slice a S.length ca, .slice b M.length cb] w fun e w' => e = .returned (.bool true) ∧ Below w.heap.size w w' := by
  obtain ⟨n, hn⟩ : ∃ n, n = M.length := ⟨_, rfl⟩
  have hSn : S.length = n := hS.len.trans hn.symm
  rw [← hn] at hl ⊢
  rw [hSn]
  have hmk := run_make_row' (P := Try.prog) 97 4 (.bool false) 1 Try.underlying97 infoB rfl .i64 .i64 n (by omega) (by omega) w
  have R0 := World.rowIs_made w (.bool false) n 4
  have B0 := galloc (Below.refl w.heap.size w) (.cells (madeCells #[.bool false] n) 4)
  generalize hW0 : w.alloc (.cells (madeCells #[.bool false] n) 4) = W0 at *
  clear hW0
  have HSn : Hid (S.length = n) := hSn
  have HMn : Hid (n = M.length) := hn
  have R0 : W0.rowIs w.heap.size 4 n (fun k => .bool (seenB S 0 k)) := R0
  clear hn hSn
  go_enter Try.func13, Try.ntmps13
  go_wp2
  go_loopw [6, 7, 8, 9] (fun vi _ _ _ wr => ∃ i : Nat, i ≤ n ∧ vi = .int .i64 (i : Int) ∧ wr.rowIs w.heap.size 4 n (fun k => .bool (seenB S i k)) ∧ Below w.heap.size w wr) (fun vi _ _ _ _ => n - (intOf vi).toNat)
  case atStart => exact ⟨0, Nat.zero_le _, rfl, R0, B0⟩
  case round =>
    obtain ⟨i, hi, rfl, R, G⟩ := hrel
    clear R0 B0 hmk
    by_cases hlt : i < n
    · have hSn : S.length = n := HSn
      have hMn : n = M.length := HMn
      obtain ⟨k, hkn, htk, hMk⟩ := hS.typ i (by omega)
      obtain ⟨ga, oa, rfl, hga, _⟩ := (A.keep G).form (by rw [fl_len ev_size]; omega)
      obtain ⟨gb, ob, rfl, hgb, _⟩ := (B.keep G).form (by rw [fl_len ev_size]; omega)
      have ra := flat_range ev_size zeroE (A.keep G) i (by omega)
      have rb := flat_range ev_size zeroE (B.keep G) k hkn
      rw [hMk] at rb
      obtain ⟨x, hx⟩ : ∃ x, S.getD i zeroE = x := ⟨_, rfl⟩
      have hno := seenB_no hS i k (by omega) htk
      rw [hx] at ra rb
      have ty := range_typ ra
      rw [show x.typ = (k : Int) by rw [← hx]; exact htk] at ty
      have hkn' : k < n := by omega
      have q1 : (i : Int) < (n : Int) := by omega
      have q2 : (k : Int) < (n : Int) := by omega
      have d1 : decide ((k : Int) < 0) = false := by simp
      have d2 : decide ((n : Int) ≤ (k : Int)) = false := by simp; omega
      have d3 : decide (n ≤ k) = false := by simp; omega
      have cs : wr.cell? ⟨w.heap.size, k, none⟩ = some (.bool false) := by rw [R.cell hkn']; simp [hno]
      have hRl := R.lt
      have p0 := fun z : Ext wr => (z.cell _ _ hRl).trans cs
      have hne0 : Nonempty (Ext wr) := ⟨⟨_, Below.refl _ _⟩⟩
      have HX : Hid (S.getD i zeroE = x) := hx
      have HK : Hid (x.typ = (k : Int)) := by show x.typ = (k : Int); rw [← hx]; exact htk
      have HT : Hid (i < n) := hlt
      clear hx hlt hno hMk htk hSn hMn hkn
      go_wp2
      refine wp_region_ext (by kernel_rfl) (by kernel_rfl) ?_
      repeat (first
        | (refine wpQuiet_load_mid rfl 29 (.tmp 46) rfl ga (oa + i * 11) rfl (evC x) _ (fun X hX => by obtain ⟨nx, rfl⟩ := hX; exact rangeAt_keep ra nx.h) Try.underlying29 rfl infoEv _ rfl ?_; simp only [Act.put, List.setIfInBounds_toArray, List.set_cons_succ, List.set_cons_zero])
        | (refine wpQuiet_load_mid rfl 29 (.tmp 50) rfl gb (ob + k * 11) rfl (evC x) _ (fun X hX => by obtain ⟨nx, rfl⟩ := hX; exact rangeAt_keep rb nx.h) Try.underlying29 rfl infoEv _ rfl ?_; simp only [Act.put, List.setIfInBounds_toArray, List.set_cons_succ, List.set_cons_zero])
        | (refine quiet_neq_same rfl (.tmp 47) (.tmp 51) 29 rfl evGuard (evC x) (ev_eq x) rfl rfl _ rfl ?_; simp only [Act.put, List.setIfInBounds_toArray, List.set_cons_succ, List.set_cons_zero])
        | go_big_quiet_step (fail))
      refine wpQuiet_nil ?_
      intro _ hw'
      obtain ⟨nx, hw''⟩ := hw'
      subst hw''
      have R1 := R.of_block (nx.h.block _ hRl)
      have R2 := R1.set k (.bool true)
      have f1 := R1.frozen k
      have c1 := R1.cell hkn'
      have R3 : (nx.X.setCell ⟨w.heap.size, k, none⟩ (.bool true)).rowIs w.heap.size 4 n (fun j => .bool (seenB S (i + 1) j)) := R2.congr (fun j hj => by
        have hx : S.getD i zeroE = x := HX
        have hk : x.typ = (k : Int) := HK
        rw [seenB_succ, hx, hk]
        by_cases e : j = k
        · rw [if_pos e, e]; simp
        · rw [if_neg e]
          have : ((k : Int) == (j : Int)) = false := by simp; omega
          rw [this, Bool.or_false])
      have G1 := gset (gtrans G nx.h) (p := ⟨w.heap.size, k, none⟩) (Nat.le_refl _) (.bool true)
      clear p0 cs R1 R2 R
      by_cases h0 : i = 0
      · have q0 : decide (0 < (i : Int)) = false := by simp; omega
        have q0n : decide (0 < i) = false := by simp; omega
        have H0 : Hid (i = 0) := h0
        clear h0
        go_wp2
        go_roundw
        case rel => have hlt : i < n := HT; exact ⟨i + 1, by omega, by go_num, R3, G1⟩
        case measure => have hlt : i < n := HT; simp [intOf]; omega
      · have q0 : decide (0 < (i : Int)) = true := by simp; omega
        have q0n : decide (0 < i) = true := by simp; omega
        obtain ⟨m, hm⟩ : ∃ m, i = m + 1 := ⟨i - 1, by omega⟩
        have E1 : (i : Int) - 1 = (m : Int) := by omega
        have hSn : S.length = n := HSn
        have hlt : i < n := HT
        have hx : S.getD i zeroE = x := HX
        have ho := hS.ord i (by omega) (by omega)
        rw [show i - 1 = m by omega] at ho
        have q3 : (m : Int) < (n : Int) := by omega
        generalize hX1 : nx.X.setCell ⟨w.heap.size, k, none⟩ (.bool true) = X1 at *
        have ra1 := flat_range ev_size zeroE (A.keep G1) i (by omega)
        have rm1 := flat_range ev_size zeroE (A.keep G1) m (by omega)
        obtain ⟨y, hy⟩ : ∃ y, S.getD m zeroE = y := ⟨_, rfl⟩
        rw [hx] at ra1 ho
        rw [hy] at rm1 ho
        have tm := range_typ rm1
        obtain ⟨bl, hbl⟩ : ∃ bl, evLt y x = bl := ⟨_, rfl⟩
        have HO : Hid (evLt x y = false ∧ (evLt y x = true ∨ y.typ ≤ x.typ)) := ho
        have cA := fun u : World => lawBefore_any x y u
        have cB := fun u : World => lawBefore_any y x u
        rw [ho.1] at cA
        rw [hbl] at cB
        have HB : Hid (evLt y x = bl) := hbl
        clear h0 hm hSn hlt hx ho hy hbl
        go_upto_region 12 with fail
        have hneX : Nonempty (Ext X1) := ⟨⟨_, Below.refl _ _⟩⟩
        have c1 : ∀ z : Ext X1, Calls Try.prog 44 #[.agg (evC x), .agg (evC y)] z.X (fun e w'' => e = .returned (.bool false) ∧ ∃ m : Ext X1, w'' = m.X) := fun z => ext_of (cA z.X)
        refine wp_region_ext (by kernel_rfl) (by kernel_rfl) ?_
        repeat (first
          | (refine wpQuiet_load_mid rfl 29 (.tmp 61) rfl ga (oa + i * 11) rfl (evC x) _ (fun X hX => by obtain ⟨nx, rfl⟩ := hX; exact rangeAt_keep ra1 nx.h) Try.underlying29 rfl infoEv _ rfl ?_; simp only [Act.put, List.setIfInBounds_toArray, List.set_cons_succ, List.set_cons_zero])
          | (refine wpQuiet_load_mid rfl 29 (.tmp 66) rfl ga (oa + m * 11) rfl (evC y) _ (fun X hX => by obtain ⟨nx, rfl⟩ := hX; exact rangeAt_keep rm1 nx.h) Try.underlying29 rfl infoEv _ rfl ?_; simp only [Act.put, List.setIfInBounds_toArray, List.set_cons_succ, List.set_cons_zero])
          | go_big_quiet_step (first | (go_at_call 44; with_reducible exact c1 _)))
        refine wpQuiet_nil ?_
        intro _ hw'
        obtain ⟨nx2, hw''⟩ := hw'
        subst hw''
        have ra2 := rangeAt_keep ra1 nx2.h
        have rm2 := rangeAt_keep rm1 nx2.h
        have G2 := gtrans G1 nx2.h
        have R4 := R3.of_block (nx2.h.block _ R3.lt)
        generalize nx2.X = X2 at *
        clear c1 hneX
        go_upto_region 13 with fail
        have hneX : Nonempty (Ext X2) := ⟨⟨_, Below.refl _ _⟩⟩
        have c2 : ∀ z : Ext X2, Calls Try.prog 44 #[.agg (evC y), .agg (evC x)] z.X (fun e w'' => e = .returned (.bool bl) ∧ ∃ m : Ext X2, w'' = m.X) := fun z => ext_of (cB z.X)
        refine wp_region_ext (by kernel_rfl) (by kernel_rfl) ?_
        repeat (first
          | (refine wpQuiet_load_mid rfl 29 (.tmp 76) rfl ga (oa + i * 11) rfl (evC x) _ (fun X hX => by obtain ⟨nx, rfl⟩ := hX; exact rangeAt_keep ra2 nx.h) Try.underlying29 rfl infoEv _ rfl ?_; simp only [Act.put, List.setIfInBounds_toArray, List.set_cons_succ, List.set_cons_zero])
          | (refine wpQuiet_load_mid rfl 29 (.tmp 72) rfl ga (oa + m * 11) rfl (evC y) _ (fun X hX => by obtain ⟨nx, rfl⟩ := hX; exact rangeAt_keep rm2 nx.h) Try.underlying29 rfl infoEv _ rfl ?_; simp only [Act.put, List.setIfInBounds_toArray, List.set_cons_succ, List.set_cons_zero])
          | go_big_quiet_step (first | (go_at_call 44; with_reducible exact c2 _)))
        refine wpQuiet_nil ?_
        intro _ hw'
        obtain ⟨nx3, hw''⟩ := hw'
        subst hw''
        have rm3 := rangeAt_keep rm2 nx3.h
        have tm3 := range_typ rm3
        have G3 := gtrans G2 nx3.h
        have R5 := R4.of_block (nx3.h.block _ R4.lt)
        generalize nx3.X = X3 at *
        clear c2 hneX cA cB tm
        have ho : evLt x y = false ∧ (evLt y x = true ∨ y.typ ≤ x.typ) := HO
        have hk : x.typ = (k : Int) := HK
        have hbl : evLt y x = bl := HB
        rw [hbl, hk] at ho
        cases bl
        · have hle : y.typ ≤ (k : Int) := by simpa using ho.2
          have q9 : decide ((k : Int) < y.typ) = false := by simp; omega
          clear ho hk hbl hle
          go_wp2
          go_roundw
          case rel => have hlt : i < n := HT; exact ⟨i + 1, by omega, by go_num, R5, G3⟩
          case measure => have hlt : i < n := HT; simp [intOf]; omega
        · clear ho hk hbl
          go_wp2
          go_roundw
          case rel => have hlt : i < n := HT; exact ⟨i + 1, by omega, by go_num, R5, G3⟩
          case measure => have hlt : i < n := HT; simp [intOf]; omega
    · have hki : ¬ (i : Int) < (n : Int) := by omega
      go_wp2
      go_ret
      exact ⟨rfl, G⟩

end Go.Proofs.Ytjfbbfmnghccdaa
