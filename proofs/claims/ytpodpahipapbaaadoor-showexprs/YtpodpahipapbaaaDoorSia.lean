/- The pieces of a text: what the helpers of package show come to. -/
import Derived.Test.YtpodpahipapbaaaDoorTb
import Derived.Test.YtpodpahipapbaaaDoorNz
import Derived.Test.YtpodpahipapbaaaDoorTwo
import Derived.OwnWalk
namespace Go.Proofs.YtpodpahipapbaaaDoor
open Go.RowKit Go.BigFrame
set_option linter.unusedVariables false
set_option linter.unusedSimpArgs false

/-- The level of an operator. -/
def lvl (op : Int) : Int := if op = 26 then 1 else if op = 25 then 2 else if op = 13 then 3 else if 19 ≤ op ∧ op ≤ 24 then 4 else if op = 14 ∨ op = 15 then 5 else if 16 ≤ op ∧ op ≤ 18 then 6 else if op = 12 then 7 else 8
/-- Some tokens, and how deep they go. -/
structure Pce where
  ts : List Tok
  d : Int
def noP : Pce := ⟨[], 0⟩
def tkK (k : Int) : Tok := ⟨k, eS, 0, 0⟩
def maxI (a b : Int) : Int := if a < b then b else a
def stepP (a p : Pce) : Pce := ⟨a.ts ++ p.ts, maxI a.d p.d⟩
def glueP (ps : List Pce) : Pce := ps.foldl stepP noP
set_option maxRecDepth 100000 in
set_option maxHeartbeats 4000000 in
theorem level_any (op : Int) (w : World) : Calls Tryd.prog 24 #[.int .i64 op] w fun e w' => e = .returned (.int .i64 (lvl op)) ∧ w = w' := by
  by_cases h : 12 ≤ op ∧ op ≤ 26
  · have hq : op = 12 ∨ op = 13 ∨ op = 14 ∨ op = 15 ∨ op = 16 ∨ op = 17 ∨ op = 18 ∨ op = 19 ∨ op = 20 ∨ op = 21 ∨ op = 22 ∨ op = 23 ∨ op = 24 ∨ op = 25 ∨ op = 26 := by omega
    rcases hq with rfl | rfl | rfl | rfl | rfl | rfl | rfl | rfl | rfl | rfl | rfl | rfl | rfl | rfl | rfl
    all_goals
      go_enter Tryd.func24, Tryd.ntmps24
      go_wp2
      go_ret
      exact ⟨rfl, rfl⟩
  · have hv : lvl op = 8 := by
      unfold lvl
      rw [if_neg (by omega), if_neg (by omega), if_neg (by omega), if_neg (by omega), if_neg (by omega), if_neg (by omega), if_neg (by omega)]
    rw [hv]
    have b1 : (op == 26) = false := beq_eq_false_iff_ne.2 (by omega)
    have b2 : (op == 25) = false := beq_eq_false_iff_ne.2 (by omega)
    have b3 : (op == 13) = false := beq_eq_false_iff_ne.2 (by omega)
    have b4 : (op == 14) = false := beq_eq_false_iff_ne.2 (by omega)
    have b5 : (op == 15) = false := beq_eq_false_iff_ne.2 (by omega)
    have b6 : (op == 12) = false := beq_eq_false_iff_ne.2 (by omega)
    by_cases h2 : op < 12
    · have d1 : decide (19 ≤ op) = false := decide_eq_false (by omega)
      have d2 : decide (16 ≤ op) = false := decide_eq_false (by omega)
      go_enter Tryd.func24, Tryd.ntmps24
      go_wp2
      go_ret
      exact ⟨rfl, rfl⟩
    · have d1 : 19 ≤ op := by omega
      have d2 : 16 ≤ op := by omega
      have d3 : decide (op ≤ 24) = false := decide_eq_false (by omega)
      have d4 : decide (op ≤ 18) = false := decide_eq_false (by omega)
      go_enter Tryd.func24, Tryd.ntmps24
      go_wp2
      go_ret
      exact ⟨rfl, rfl⟩
set_option maxRecDepth 100000 in
set_option maxHeartbeats 4000000 in
theorem sign_any (op : Int) (h0 : 14 ≤ op) (h1 : op ≤ 26) (w : World) : Calls Tryd.prog 29 #[.int .i64 op] w fun e w' => e = .returned (.int .i64 (11 + (op - 14))) ∧ w = w' := by
  go_enter Tryd.func29, Tryd.ntmps29
  go_wp2
  go_ret
  exact ⟨rfl, rfl⟩
set_option maxRecDepth 100000 in
set_option maxHeartbeats 4000000 in
theorem aggregate_any (op : Int) (h0 : 6 ≤ op) (h1 : op ≤ 11) (w : World) : Calls Tryd.prog 44 #[.int .i64 op] w fun e w' => e = .returned (.int .i64 (47 + (op - 6))) ∧ w = w' := by
  go_enter Tryd.func44, Tryd.ntmps44
  go_wp2
  go_ret
  exact ⟨rfl, rfl⟩
/-- A piece that was made: its value, its row of its own. -/
def PcA (w : World) (b : Nat) (v : Value) (p : Pce) : Prop := ∃ t, v = .agg #[t, .int .i64 p.d] ∧ w.ownsRow b 57 4 t p.ts.length (toksV p.ts)
theorem own_tok1 (w : World) (base : Nat) (t : Tok) (hb : base ≤ w.heap.size) : (w.alloc (.cells (tokA t) 57)).ownsRow base 57 4 (.slice (some ⟨w.heap.size, 0, none⟩) 1 1) 1 (toksV [t]) :=
  ⟨rfl, .inr ⟨w.heap.size, 1, tokA t, rfl, hb, by show (w.heap.push _)[w.heap.size]? = _; simp, Nat.le_refl _, by decide, rfl, rfl⟩⟩
set_option maxRecDepth 100000 in
set_option maxHeartbeats 4000000 in
theorem name_any (s : ByteArray) (w : World) : Calls Tryd.prog 43 #[.string s] w fun e w' => ∃ v, e = .returned v ∧ PcA w' w.heap.size v ⟨[⟨1, s, 0, 0⟩], 0⟩ ∧ Below w.heap.size w w' := by
  go_enter Tryd.func43, Tryd.ntmps43
  go_wp2
  have h := own_tok1 (w.alloc (.cells #[.slice (some ⟨w.heap.size + 1, 0, none⟩) 1 1, .int .i64 0] 36)) w.heap.size ⟨1, s, 0, 0⟩ (by simp)
  rw [show (w.alloc (.cells #[.slice (some ⟨w.heap.size + 1, 0, none⟩) 1 1, .int .i64 0] 36)).heap.size = w.heap.size + 1 by simp] at h
  refine bodyPost_ret (v := .agg #[.slice (some ⟨w.heap.size + 1, 0, none⟩) 1 1, .int .i64 0]) (by simp [results, Tryd.results43, go_sem]) rfl ⟨_, rfl, ⟨_, rfl, h⟩, galloc (galloc (Below.refl _ _) _) _⟩
set_option maxRecDepth 100000 in
set_option maxHeartbeats 4000000 in
theorem number_any (n : Int) (w : World) : Calls Tryd.prog 41 #[.int .i64 n] w fun e w' => ∃ v, e = .returned v ∧ PcA w' w.heap.size v ⟨[⟨2, eS, n, 0⟩], 0⟩ ∧ Below w.heap.size w w' := by
  go_enter Tryd.func41, Tryd.ntmps41
  go_wp2
  have h := own_tok1 (w.alloc (.cells #[.slice (some ⟨w.heap.size + 1, 0, none⟩) 1 1, .int .i64 0] 36)) w.heap.size ⟨2, eS, n, 0⟩ (by simp)
  rw [show (w.alloc (.cells #[.slice (some ⟨w.heap.size + 1, 0, none⟩) 1 1, .int .i64 0] 36)).heap.size = w.heap.size + 1 by simp] at h
  refine bodyPost_ret (v := .agg #[.slice (some ⟨w.heap.size + 1, 0, none⟩) 1 1, .int .i64 0]) (by simp [results, Tryd.results41, go_sem]) rfl ⟨_, rfl, ⟨_, rfl, h⟩, galloc (galloc (Below.refl _ _) _) _⟩
/-- A row of kinds. -/
def IsKs (w : World) (ao : Option Addr) (ks : List Int) : Prop := ∀ i, i < ks.length → ∃ g o, ao = some ⟨g, o, none⟩ ∧ w.cell? ⟨g, o + i, none⟩ = some (.int .i64 (ks.getD i 0))
theorem IsKs.keep {w u : World} {ao : Option Addr} {ks : List Int} (h : IsKs w ao ks) (G : Below w.heap.size w u) : IsKs u ao ks := fun i hi => by
  obtain ⟨g, o, e, a0⟩ := h i hi
  exact ⟨g, o, e, (G.cell (p := ⟨_, _, none⟩) (lt_of_cell a0)).trans a0⟩
def fxL (ks : List Int) : List Tok := ks.map tkK
def fixP (ks : List Int) : Pce := ⟨fxL ks, 0⟩
theorem fxL_len (ks : List Int) : (fxL ks).length = ks.length := by unfold fxL; exact List.length_map _
set_option maxRecDepth 100000 in
set_option maxHeartbeats 4000000 in
theorem fixed_any (ks : List Int) (hk8 : ks.length ≤ 8) (ao : Option Addr) (cap : Nat) (w : World) (A : IsKs w ao ks) : Calls Tryd.prog 27 #[.slice ao ks.length cap] w fun e w' => ∃ v, e = .returned v ∧ PcA w' w.heap.size v (fixP ks) ∧ Below w.heap.size w w' := by
  obtain ⟨i3, ti, tz0, tz1, tz2⟩ := info_partsTk
  obtain ⟨n, hn⟩ : ∃ n, ks.length = n := ⟨_, rfl⟩
  rw [hn] at hk8 ⊢
  go_enter Tryd.func27, Tryd.ntmps27
  go_wp2
  have T1 := (Two.new w (.slice none 0 0) (.int .i64 0) 36).alloc (.cells #[.slice none 0 0, .int .i64 0] 36)
  have T2 := Two.new (w.alloc (.cells #[.slice none 0 0, .int .i64 0] 36)) (.slice none 0 0) (.int .i64 0) 36
  rw [show (w.alloc (.cells #[.slice none 0 0, .int .i64 0] 36)).heap.size = w.heap.size + 1 by simp] at T2
  have GV := galloc (galloc (Below.refl w.heap.size w) (.cells #[.slice none 0 0, .int .i64 0] 36)) (.cells #[.slice none 0 0, .int .i64 0] 36)
  generalize hV : (w.alloc (.cells #[.slice none 0 0, .int .i64 0] 36)).alloc (.cells #[.slice none 0 0, .int .i64 0] 36) = V at *
  have zV : V.heap.size = w.heap.size + 2 := by rw [← hV]; simp
  clear hV
  go_loopw [5, 8] (fun _ x wr => ∃ (k : Nat) (v : Value), k ≤ n ∧ x = .int .i64 k ∧ Two wr w.heap.size (.slice none 0 0) (.int .i64 0) 36 ∧ Two wr (w.heap.size + 1) v (.int .i64 0) 36 ∧ wr.ownsRow (w.heap.size + 2) 57 4 v k (toksV (fxL (ks.take k))) ∧ Below w.heap.size w wr) (fun _ x _ => n - (intOf x).toNat)
  case atStart => exact ⟨0, .slice none 0 0, Nat.zero_le _, rfl, T1, T2, World.ownsRow_nil _ _ _ _, GV⟩
  case round =>
    obtain ⟨k, v, hk, rfl, P1, P2, O, G⟩ := hrel
    have zG := G.size
    have z2 := P2.lt
    by_cases hlt : k < n
    · obtain ⟨g, o, rfl, x0⟩ := (A.keep G) k (by omega)
      have HM : Hid (toksV (fxL (ks.take (k + 1))) = toksV (fxL (ks.take k)) ++ (tokA (tkK (ks.getD k 0))).toList) := by
        show _ = _
        have : k < ks.length := by omega
        unfold fxL
        rw [List.take_add_one]
        simp only [toksV, List.map_append, List.flatMap_append, List.getD, List.getElem?_eq_getElem this, Option.toList_some, Option.getD_some, List.map_cons, List.map_nil, List.flatMap_cons, List.flatMap_nil, List.append_nil]
      generalize ks.getD k 0 = y at *
      have p0 := P2.at0
      have q0 : ∀ o, (wr.alloc o).cell? ⟨w.heap.size + 1, 0, none⟩ = some v := fun o => (P2.alloc o).at0
      clear A
      go_wp2_with (at_builtin; refine wpList_append_own _ rfl (.tmp 13) (.tmp 16) 34 rfl (w.heap.size + 2) 57 i3 (.agg (tokA noTok)) 4 40 Tryd.underlying34 ti tz0 tz1 tz2 rfl (by decide) _ _ _ rfl (O.alloc _) ⟨wr.heap.size, 0, none⟩ 1 1 (tokA (tkK y)).toList rfl rfl (new4 wr (tkK y)) (by intro u hu; simp [tokA] at hu; rcases hu with rfl | rfl | rfl | rfl <;> rfl) ?c3 ?c4 ?c5 ?_)
      case c3 => unfold maxLen; omega
      case c4 => omega
      case c5 => first | omega | (simp; omega)
      intro v' w1 hown' hgrow _
      rw [← HM.out] at hown'
      have hap : ∀ r, v.ownBlock = some r → w.heap.size + 2 ≤ r := fun r e => (O.lt _ e).1
      have P1' : Two w1 w.heap.size (.slice none 0 0) (.int .i64 0) 36 := (hgrow.block _ (by have := P1.lt; simp; omega) (fun e => by have := hap _ e.symm; omega)).trans (P1.alloc _)
      have P2' : Two w1 (w.heap.size + 1) v (.int .i64 0) 36 := (hgrow.block _ (by simp; omega) (fun e => by have := hap _ e.symm; omega)).trans (P2.alloc _)
      have G9 : Below w.heap.size w w1 := (galloc G _).grown hgrow (by simp; omega) (fun r e => by have := hap _ e; omega)
      have p3 := P2'.at0
      have p4 := P2'.free 0
      have P2s := P2'.set0 v'
      have P1s := P1'.other (p := ⟨w.heap.size + 1, 0, none⟩) (by show w.heap.size ≠ w.heap.size + 1; omega) v'
      have Os := own_of_block hown' (u := w1.setCell ⟨w.heap.size + 1, 0, none⟩ v') (fun g' _ hg' _ => Below.heap_setCell w1 _ _ g' (by show g' ≠ w.heap.size + 1; omega))
      have Gs := gset G9 (p := ⟨w.heap.size + 1, 0, none⟩) (by show w.heap.size ≤ w.heap.size + 1; omega) v'
      obtain ⟨vo, vc, rfl⟩ := own_shape hown'
      clear hgrow O P1 P2 P1' P2' G9 hown'
      go_wp2
      go_roundw
      case rel => exact ⟨k + 1, _, by omega, by go_num, P1s, P2s, Os, Gs⟩
      case measure => simp [intOf]; omega
    · obtain rfl : k = n := by omega
      rw [List.take_of_length_le (by omega)] at O
      obtain ⟨vo, vc, rfl⟩ := own_shape O
      have p0 := P2.at0
      have p1 := P2.at1
      have f0 := P1.free 0
      have f1 := P1.free 1
      have p2 := P1.at0
      have p3 := P1.at1
      go_wp2
      have P3 := P1.set (.slice vo k vc) (.int .i64 0)
      have O3 := own_of_block O (u := (wr.setCell ⟨w.heap.size, 0, none⟩ (.slice vo k vc)).setCell ⟨w.heap.size, 1, none⟩ (.int .i64 0)) (fun g' _ hg' _ => (Below.heap_setCell _ _ _ g' (by show g' ≠ w.heap.size; omega)).trans (Below.heap_setCell _ _ _ g' (by show g' ≠ w.heap.size; omega)))
      have G3 := gset (gset G (p := ⟨w.heap.size, 0, none⟩) (Nat.le_refl _) (.slice vo k vc)) (p := ⟨w.heap.size, 1, none⟩) (Nat.le_refl _) (.int .i64 0)
      have r0 := P3.at0
      have r1 := P3.at1
      refine bodyPost_ret (v := .agg #[.slice vo k vc, .int .i64 0]) (by simp [results, Tryd.results27, go_sem, r0, r1]) rfl ⟨_, rfl, ⟨_, rfl, ?_⟩, G3⟩
      rw [show (fixP ks).ts = fxL ks from rfl, fxL_len, hn]
      exact own_mono O3 (by omega)

end Go.Proofs.YtpodpahipapbaaaDoor
