/- The beginning of a descent; what is caught; an attempt. -/
import Derived.Test.YtmoimmghmmomlaaDoorPz
namespace Go.Proofs.YtmoimmghmmomlaaDoor
open Go.RowKit Go.BigFrame
set_option linter.unusedVariables false
set_option linter.unusedSimpArgs false

theorem tk_own {w : World} {base g c : Nat} {ts : List Tok} (h : w.ownsRow base 79 4 (.slice (some ⟨g, 0, none⟩) ts.length c) ts.length (toksV ts)) : Tk w g 0 ts := fun i hi => by
  have hc : ∀ j, j < 4 → w.cell? ⟨g, i * 4 + j, none⟩ = (tokA (ts.getD i noTok)).toList[j]? := fun j hj => by
    rw [World.ownsRow.cellAt h (i * 4 + j) (by omega), toksV_at ts i hi j hj]
  refine ⟨?_, ?_, ?_, ?_⟩
  · rw [Nat.zero_add]; exact hc 0 (by omega)
  · rw [Nat.zero_add]; exact hc 1 (by omega)
  · rw [Nat.zero_add]; exact hc 2 (by omega)
  · rw [Nat.zero_add]; exact hc 3 (by omega)
set_option maxRecDepth 100000 in
set_option maxHeartbeats 4000000 in
theorem begin_ok (s : ByteArray) (hs : s.size ≤ 140737488351232) (w : World) (K : KwAt w) (Sg : SgAt w) (E : ErAt w) (ts : List Tok) (pl : Nat) (hc : lexO s = (ts, 0, pl)) : Calls Tryd.prog 46 #[.string s] w fun e w' => ∃ d g, e = .returned (.pointer (some ⟨d, 0, none⟩)) ∧ De w' d g s.size ts 0 ∧ w.heap.size ≤ d ∧ Below w.heap.size w w' := by
  have c1 := lexLex_any s (by omega) w K Sg E
  rw [hc] at c1
  dsimp only at c1
  have h0 : 0 < w.heap.size := Nat.lt_of_le_of_lt (Nat.zero_le _) K.1
  clear hc
  go_enter Tryd.func46, Tryd.ntmps46
  go_wp2_with (go_at_call 12; (with_reducible refine c1.mono ?_); rintro e u ⟨v, rfl, O1, g1⟩; obtain ⟨ao, cp, rfl⟩ := own_shape O1)
  go_ret
  have hg : ∃ g, g < u.heap.size ∧ ts.length ≤ cp ∧ (ts ≠ [] → ao = some ⟨g, 0, none⟩ ∧ Tk u g 0 ts) := by
    rcases id O1.2 with ⟨h1, h2⟩ | ⟨g, c, cur, h1, hb, hh, hcp, _⟩
    · have := g1.size
      exact ⟨0, by omega, by rw [h2]; exact Nat.zero_le _, fun h => absurd (List.length_eq_zero_iff.1 h2) h⟩
    · simp only [Value.slice.injEq, true_and] at h1
      obtain ⟨rfl, rfl⟩ := h1
      exact ⟨g, lt_of_block hh, hcp, fun _ => ⟨rfl, tk_own O1⟩⟩
  obtain ⟨g, hgl, hcp, ht⟩ := hg
  refine ⟨u.heap.size, g, rfl, ⟨hgl, ao, cp, heap_alloc_new _ _, hcp, fun h => ?_⟩, g1.size, galloc g1 _⟩
  obtain ⟨e1, e2⟩ := ht h
  exact ⟨0, e1, e2.same (Below.heap_alloc u _ g hgl)⟩
set_option maxRecDepth 100000 in
set_option maxHeartbeats 4000000 in
theorem begin_bad (s : ByteArray) (hs : s.size ≤ 140737488351232) (w : World) (K : KwAt w) (Sg : SgAt w) (E : ErAt w) (ts : List Tok) (c : Int) (pl : Nat) (hc : lexO s = (ts, c, pl)) (h0 : c ≠ 0) : Calls Tryd.prog 46 #[.string s] w fun e w' => e = .panicked (rfC c pl) ∧ Below w.heap.size w w' := by
  have c1 := lexLex_any s (by omega) w K Sg E
  rw [hc] at c1
  dsimp only at c1
  have q : (c != 0) = true := by simpa using h0
  clear hc h0
  go_enter Tryd.func46, Tryd.ntmps46
  go_wp2_with (go_at_call 12; (with_reducible refine c1.mono ?_); rintro e u ⟨v, rfl, O1, g1⟩; obtain ⟨ao, cp, rfl⟩ := own_shape O1)
  exact ⟨rfl, rfl, g1⟩
set_option maxRecDepth 100000 in
set_option maxHeartbeats 4000000 in
theorem reason_any (c p : Int) (w : World) : Calls Tryd.prog 45 #[rfV c p] w fun e w' => e = .returned (.tuple #[.int .i64 c, .int .i64 p]) ∧ Below w.heap.size w w' := by
  unfold rfV
  have hta : ∀ w : World, (Instr.typeAssert (.iface 105 (.agg #[.int .i64 c, .int .i64 p])) 20 105 true).run Tryd.prog w = .ok (.tuple #[.agg #[.int .i64 c, .int .i64 p], .bool true]) w := fun w => by kernel_rfl
  go_enter Tryd.func45, Tryd.ntmps45
  go_upto_region 4 with fail
  have B := galloc (Below.refl w.heap.size w) (.cells #[.int .i64 c, .int .i64 p] 105)
  have hb : (w.alloc (.cells #[.int .i64 c, .int .i64 p] 105)).heap[w.heap.size]? = some (.cells #[.int .i64 c, .int .i64 p] 105 (0, 0)) := heap_alloc_new _ _
  generalize w.alloc (.cells #[.int .i64 c, .int .i64 p] 105) = V at *
  have h1 : V.cell? ⟨w.heap.size, 0, none⟩ = some (.int .i64 c) := by simp [World.cell?, hb]
  have h2 : V.cell? ⟨w.heap.size, 1, none⟩ = some (.int .i64 p) := by simp [World.cell?, hb]
  go_region
  all_goals
    go_wp2
    go_ret2
    exact ⟨rfl, B.drew⟩
set_option maxRecDepth 100000 in
set_option maxHeartbeats 4000000 in
/-- The deferred function of an attempt that gives up: the refusal is caught, its code and place are laid down. -/
theorem catch_panic (c0 c1 : Nat) (hne : c0 ≠ c1) (c p x y : Int) (w : World) (h0 : One w c0 (.int .i64 x) 28) (h1 : One w c1 (.int .i64 y) 3) :
    CallsD Tryd.prog 44 #[.pointer (some ⟨c0, 0, none⟩), .pointer (some ⟨c1, 0, none⟩)] (.panicking (rfC c p)) w fun e u' w' =>
      e = .returned (.tuple #[]) ∧ u' = .panicking [{ v := rfV c p, recovered := true }] ∧ ∃ w1, Below w.heap.size w w1 ∧ w' = (w1.setCell ⟨c0, 0, none⟩ (.int .i64 c)).setCell ⟨c1, 0, none⟩ (.int .i64 p) := by
  unfold rfC
  have cr := reason_any c p w
  refine callsD_of_wpS Tryd.func44 rfl fun c₀ cs hu => ?_
  apply wpS_seq
  apply wpS_region
  simp [wpOpsS, go_sem, recoverD, hu, Tryd.ntmps44, Exit.thenS]
  refine wpS_of_wp ?_
  have ht : (#[Value.pointer (some ⟨c0, 0, none⟩), Value.pointer (some ⟨c1, 0, none⟩)] ++ ((Array.replicate 9 undef).setIfInBounds 1 (rfV c p)).setIfInBounds 0 (rfV c p)) = #[.pointer (some ⟨c0, 0, none⟩), .pointer (some ⟨c1, 0, none⟩), rfV c p, rfV c p, undef, undef, undef, undef, undef, undef, undef] := rfl
  rw [ht]
  generalize hQ : (fun (e : Exit) (a' : Act) (w' : World) => bodyPostS Tryd.prog Tryd.f44 c₀ cs _ e a' _ w') = Q
  have hnn : ∀ w : World, (binOp .neq 20 (rfV c p) .nilIface).run Tryd.prog w = .ok (.bool true) w := fun w => rfl
  have hgd : ∀ w : World, (eqGuard .neq 20 (.tmp 4) (.const .nilIface) (rfV c p) .nilIface).run Tryd.prog w = .ok () w := fun w => rfl
  go_wp2_with (go_at_call 45; (with_reducible refine cr.mono ?_); rintro e u ⟨rfl, g1⟩; have o0 := (h0.keep g1).at0; have f0 := (h0.keep g1).free; have o1 := (h1.keep g1).at0; have f1 := (h1.keep g1).free)
  subst hQ
  simp [bodyPostS, results, Tryd.results44]
  exact ⟨u, g1, rfl⟩
set_option maxRecDepth 100000 in
set_option maxHeartbeats 4000000 in
theorem catch_idle (c0 c1 : Nat) (w : World) :
    CallsD Tryd.prog 44 #[.pointer (some ⟨c0, 0, none⟩), .pointer (some ⟨c1, 0, none⟩)] .returning w fun e u' w' => e = .returned (.tuple #[]) ∧ u' = .returning ∧ w' = w := by
  refine callsD_of_wpS Tryd.func44 rfl fun c₀ cs hu => ?_
  apply wpS_seq
  apply wpS_region
  simp [wpOpsS, go_sem, recoverD, hu, Tryd.ntmps44, Exit.thenS]
  refine wpS_of_wp ?_
  have ht : (#[Value.pointer (some ⟨c0, 0, none⟩), Value.pointer (some ⟨c1, 0, none⟩)] ++ ((Array.replicate 9 undef).setIfInBounds 1 Value.nilIface).setIfInBounds 0 Value.nilIface) = #[.pointer (some ⟨c0, 0, none⟩), .pointer (some ⟨c1, 0, none⟩), .nilIface, .nilIface, undef, undef, undef, undef, undef, undef, undef] := rfl
  rw [ht]
  generalize hQ : (fun (e : Exit) (a' : Act) (w' : World) => bodyPostS Tryd.prog Tryd.f44 c₀ cs _ e a' _ w') = Q
  have hnn : ∀ w : World, (binOp .neq 20 .nilIface .nilIface).run Tryd.prog w = .ok (.bool false) w := fun w => rfl
  have hgd : ∀ w : World, (eqGuard .neq 20 (.tmp 4) (.const .nilIface) .nilIface .nilIface).run Tryd.prog w = .ok () w := fun w => rfl
  go_wp2
  subst hQ
  cases c₀
  simp_all [bodyPostS, results, Tryd.results44]
structure Fr (V : List Nat) (N : Nat) (w u : World) : Prop where
  os : u.os = w.os
  tape : u.tape = w.tape
  output : u.output = w.output
  size : w.heap.size ≤ u.heap.size
  blk : ∀ k, k < N → k ∉ V → u.heap[k]? = w.heap[k]?
theorem Fr.of {V : List Nat} {N : Nat} {w u : World} (h : Below N w u) : Fr V N w u := ⟨h.os, h.tape, h.output, h.size, fun k hk _ => h.block k hk⟩
theorem Fr.trans {V : List Nat} {N : Nat} {w u v : World} (h : Fr V N w u) (k : Fr V N u v) : Fr V N w v :=
  ⟨k.os.trans h.os, k.tape.trans h.tape, k.output.trans h.output, Nat.le_trans h.size k.size, fun j h1 h2 => (k.blk j h1 h2).trans (h.blk j h1 h2)⟩
theorem Fr.mono {V : List Nat} {N M : Nat} {w u : World} (h : Fr V N w u) (hM : M ≤ N) : Fr V M w u := ⟨h.os, h.tape, h.output, h.size, fun j h1 h2 => h.blk j (by omega) h2⟩
theorem Fr.more {V : List Nat} {N : Nat} {w u : World} (h : Fr [] N w u) : Fr V N w u := ⟨h.os, h.tape, h.output, h.size, fun j h1 _ => h.blk j h1 (by simp)⟩
theorem Fr.set {V : List Nat} {N : Nat} {w u : World} (h : Fr V N w u) {p : Addr} (hp : N ≤ p.block) (v : Value) : Fr V N w (u.setCell p v) :=
  have k : Below p.block u (u.setCell p v) := (Below.refl p.block u).setCell (Nat.le_refl _) v
  ⟨k.os.trans h.os, k.tape.trans h.tape, k.output.trans h.output, Nat.le_trans h.size k.size, fun j h1 h2 => (Below.heap_setCell u p v j (by omega)).trans (h.blk j h1 h2)⟩
/-- What reading comes to. -/
def ReadP (V : List Nat) (d : Nat) (G : World → Prop) (r : Except (Int × Int) Unit) (u : World) (e : Ending) (u' : World) : Prop :=
  match r with
  | .ok _ => e = .returned (.tuple #[]) ∧ G u' ∧ Fr V d u u'
  | .error (c, p) => e = .panicked (rfC c p) ∧ Fr [] d u u'
def TriedP (V : List Nat) (G : World → Prop) (r : Except (Int × Int) Unit) (w : World) (e : Ending) (w' : World) : Prop :=
  match r with
  | .ok _ => e = .returned (.tuple #[.int .i64 0, .int .i64 0]) ∧ G w' ∧ Fr V w.heap.size w w'
  | .error (c, p) => e = .returned (.tuple #[.int .i64 c, .int .i64 p]) ∧ Fr [] w.heap.size w w'
set_option maxRecDepth 100000 in
set_option maxHeartbeats 4000000 in
theorem attempt_lex (fv : Value) (V : List Nat) (G : World → Prop) (s : ByteArray) (hs : s.size ≤ 140737488351232) (w : World) (K : KwAt w) (Sg : SgAt w) (E : ErAt w) (ts : List Tok) (c : Int) (pl : Nat) (hc : lexO s = (ts, c, pl)) (h0 : c ≠ 0) :
    Calls Tryd.prog 25 #[.string s, fv] w (TriedP V G (.error (c, pl)) w) := by
  have B := galloc (galloc (Below.refl w.heap.size w) (.cells #[.int .i64 0] 28)) (.cells #[.int .i64 0] 3)
  have O0 := (One.new w (.int .i64 0) 28).alloc (.cells #[.int .i64 0] 3)
  have O1 := One.new (w.alloc (.cells #[.int .i64 0] 28)) (.int .i64 0) 3
  have hz : (w.alloc (.cells #[.int .i64 0] 28)).heap.size = w.heap.size + 1 := by simp
  rw [hz] at O1
  clear hz
  have hmf : ∀ (fn : Fn) (first cap : Array Value) (w : World), (Instr.makeFunc fn first cap).run Tryd.prog w = .ok (.func fn first cap) w := fun _ _ _ _ => rfl
  go_enter_defers Tryd.func25, Tryd.ntmps25
  go_upto_region 1 with fail
  generalize (w.alloc (.cells #[.int .i64 0] 28)).alloc (.cells #[.int .i64 0] 3) = V1 at *
  have c1 := begin_bad s hs V1 (K.keep B) (Sg.keep B) (E.keep B) ts c pl hc h0
  clear hc h0
  go_wp2_with (go_at_call 46; (with_reducible refine c1.mono ?_); rintro e u ⟨rfl, g1⟩)
  refine leaves_cons (f := 44) (args := #[.pointer (some ⟨w.heap.size, 0, none⟩), .pointer (some ⟨w.heap.size + 1, 0, none⟩)]) (by simp) (by simp [go_sem]) ?_
  refine (catch_panic w.heap.size (w.heap.size + 1) (by omega) c pl 0 0 u (O0.keep g1) (O1.keep g1)).mono ?_
  rintro e u' w'' ⟨rfl, rfl, w1, gw, rfl⟩
  have P0 := ((O0.keep g1).keep gw).set (.int .i64 c)
  have P1 : One (w1.setCell ⟨w.heap.size, 0, none⟩ (.int .i64 c)) (w.heap.size + 1) (.int .i64 0) 3 := (Below.heap_setCell w1 _ _ _ (by show w.heap.size + 1 ≠ w.heap.size; omega)).trans ((O1.keep g1).keep gw)
  have x1 := (P1.set (.int .i64 pl)).at0
  have x0 : ((w1.setCell ⟨w.heap.size, 0, none⟩ (.int .i64 c)).setCell ⟨w.heap.size + 1, 0, none⟩ (.int .i64 pl)).cell? ⟨w.heap.size, 0, none⟩ = some (.int .i64 c) := One.at0 (t := 28) ((Below.heap_setCell _ _ _ _ (by show w.heap.size ≠ w.heap.size + 1; omega)).trans P0)
  have FF : Fr [] w.heap.size w ((w1.setCell ⟨w.heap.size, 0, none⟩ (.int .i64 c)).setCell ⟨w.heap.size + 1, 0, none⟩ (.int .i64 pl)) := ((Fr.of (gtrans (gtrans B g1) gw)).set (Nat.le_refl _) _).set (by show w.heap.size ≤ w.heap.size + 1; omega) _
  generalize (w1.setCell ⟨w.heap.size, 0, none⟩ (.int .i64 c)).setCell ⟨w.heap.size + 1, 0, none⟩ (.int .i64 pl) = W9 at *
  simp [Leaves, settle, results, Tryd.results25, go_sem, x0, x1]
  exact ⟨rfl, FF⟩
set_option maxRecDepth 100000 in
set_option maxHeartbeats 4000000 in
theorem attempt_any (F : FuncId) (hE : ∀ (args : Array Value) (v : World), (callFunc F args).run Tryd.prog v = .ok (.enter F args) v) (caps : Array Value) (V : List Nat) (G : World → Prop) (r : Except (Int × Int) Unit) (s : ByteArray) (hs : s.size ≤ 140737488351232) (w : World) (K : KwAt w) (Sg : SgAt w) (E : ErAt w) (ts : List Tok) (pl : Nat) (hc : lexO s = (ts, 0, pl))
    (hV : ∀ k ∈ V, k < w.heap.size)
    (hG : ∀ u v, G u → (∀ k, k ≠ w.heap.size → k ≠ w.heap.size + 1 → v.heap[k]? = u.heap[k]?) → G v)
    (hR : ∀ u d g, De u d g s.size ts 0 → w.heap.size + 2 ≤ d → Below w.heap.size w u → Calls Tryd.prog F (#[.pointer (some ⟨d, 0, none⟩)] ++ caps) u (ReadP V d G r u)) :
    Calls Tryd.prog 25 #[.string s, .func (.func F) #[] caps] w (TriedP V G r w) := by
  have B := galloc (galloc (Below.refl w.heap.size w) (.cells #[.int .i64 0] 28)) (.cells #[.int .i64 0] 3)
  have O0 := (One.new w (.int .i64 0) 28).alloc (.cells #[.int .i64 0] 3)
  have O1 := One.new (w.alloc (.cells #[.int .i64 0] 28)) (.int .i64 0) 3
  have hz : (w.alloc (.cells #[.int .i64 0] 28)).heap.size = w.heap.size + 1 := by simp
  rw [hz] at O1
  clear hz
  have hmf : ∀ (fn : Fn) (first cap : Array Value) (w : World), (Instr.makeFunc fn first cap).run Tryd.prog w = .ok (.func fn first cap) w := fun _ _ _ _ => rfl
  go_enter_defers Tryd.func25, Tryd.ntmps25
  go_upto_region 1 with fail
  generalize (w.alloc (.cells #[.int .i64 0] 28)).alloc (.cells #[.int .i64 0] 3) = V1 at *
  have c1 := begin_ok s hs V1 (K.keep B) (Sg.keep B) (E.keep B) ts pl hc
  have l0 := O0.lt
  have l1 := O1.lt
  have n0 : w.heap.size ∉ V := fun h => by have := hV _ h; omega
  have n1 : w.heap.size + 1 ∉ V := fun h => by have := hV _ h; omega
  clear hc
  cases r with
  | error cp =>
    obtain ⟨c, p⟩ := cp
    go_wp2_with (first
      | (go_at_call 46; (with_reducible refine c1.mono ?_); rintro e u ⟨d, g, rfl, D, hd, g1⟩; have c2 := hR u d g D (by omega) (gtrans B g1))
      | ((with_reducible refine c2.mono ?_); rintro e u2 ⟨rfl, F2⟩))
    have Q0 : One u2 w.heap.size (.int .i64 0) 28 := (F2.blk _ (by omega) (by simp)).trans (O0.keep g1)
    have Q1 : One u2 (w.heap.size + 1) (.int .i64 0) 3 := (F2.blk _ (by omega) (by simp)).trans (O1.keep g1)
    refine leaves_cons (f := 44) (args := #[.pointer (some ⟨w.heap.size, 0, none⟩), .pointer (some ⟨w.heap.size + 1, 0, none⟩)]) (by simp) (by simp [go_sem]) ?_
    refine (catch_panic w.heap.size (w.heap.size + 1) (by omega) c p 0 0 u2 Q0 Q1).mono ?_
    rintro e u' w'' ⟨rfl, rfl, w1, gw, rfl⟩
    have P0 := (Q0.keep gw).set (.int .i64 c)
    have P1 : One (w1.setCell ⟨w.heap.size, 0, none⟩ (.int .i64 c)) (w.heap.size + 1) (.int .i64 0) 3 := (Below.heap_setCell w1 _ _ _ (by show w.heap.size + 1 ≠ w.heap.size; omega)).trans (Q1.keep gw)
    have x1 := (P1.set (.int .i64 p)).at0
    have x0 : ((w1.setCell ⟨w.heap.size, 0, none⟩ (.int .i64 c)).setCell ⟨w.heap.size + 1, 0, none⟩ (.int .i64 p)).cell? ⟨w.heap.size, 0, none⟩ = some (.int .i64 c) := One.at0 (t := 28) ((Below.heap_setCell _ _ _ _ (by show w.heap.size ≠ w.heap.size + 1; omega)).trans P0)
    have hsz : u.heap.size ≤ u2.heap.size := F2.size
    have FF : Fr [] w.heap.size w ((w1.setCell ⟨w.heap.size, 0, none⟩ (.int .i64 c)).setCell ⟨w.heap.size + 1, 0, none⟩ (.int .i64 p)) := ((((Fr.of (gtrans B g1)).trans (F2.mono (by omega))).trans (Fr.of (gw.mono (by have := (gtrans B g1).size; omega)))).set (Nat.le_refl _) _).set (by show w.heap.size ≤ w.heap.size + 1; omega) _
    generalize (w1.setCell ⟨w.heap.size, 0, none⟩ (.int .i64 c)).setCell ⟨w.heap.size + 1, 0, none⟩ (.int .i64 p) = W9 at *
    simp [Leaves, settle, results, Tryd.results25, go_sem, x0, x1]
    exact ⟨rfl, FF⟩
  | ok cp =>
    go_wp2_with (first
      | (go_at_call 46; (with_reducible refine c1.mono ?_); rintro e u ⟨d, g, rfl, D, hd, g1⟩; have c2 := hR u d g D (by omega) (gtrans B g1))
      | ((with_reducible refine c2.mono ?_); rintro e u2 ⟨rfl, G2, F2⟩; have Q0 : One u2 w.heap.size (.int .i64 0) 28 := (F2.blk _ (by omega) n0).trans (O0.keep g1); have Q1 : One u2 (w.heap.size + 1) (.int .i64 0) 3 := (F2.blk _ (by omega) n1).trans (O1.keep g1); have y0 := Q0.at0; have y1 := Q1.at0; have z0 := Q0.free; have z1 := Q1.free))
    refine leaves_cons (f := 44) (args := #[.pointer (some ⟨w.heap.size, 0, none⟩), .pointer (some ⟨w.heap.size + 1, 0, none⟩)]) (by simp) (by simp [go_sem]) ?_
    refine (catch_idle w.heap.size (w.heap.size + 1) _).mono ?_
    rintro e u' w'' ⟨rfl, rfl, rfl⟩
    have P0 := Q0.set (.int .i64 0)
    have P1 : One (u2.setCell ⟨w.heap.size, 0, none⟩ (.int .i64 0)) (w.heap.size + 1) (.int .i64 0) 3 := (Below.heap_setCell u2 _ _ _ (by show w.heap.size + 1 ≠ w.heap.size; omega)).trans Q1
    have x1 := (P1.set (.int .i64 0)).at0
    have x0 : ((u2.setCell ⟨w.heap.size, 0, none⟩ (.int .i64 0)).setCell ⟨w.heap.size + 1, 0, none⟩ (.int .i64 0)).cell? ⟨w.heap.size, 0, none⟩ = some (.int .i64 0) := One.at0 (t := 28) ((Below.heap_setCell _ _ _ _ (by show w.heap.size ≠ w.heap.size + 1; omega)).trans P0)
    have FF : Fr V w.heap.size w ((u2.setCell ⟨w.heap.size, 0, none⟩ (.int .i64 0)).setCell ⟨w.heap.size + 1, 0, none⟩ (.int .i64 0)) := (((Fr.of (gtrans B g1)).trans (F2.mono (by omega))).set (Nat.le_refl _) _).set (by show w.heap.size ≤ w.heap.size + 1; omega) _
    have GG : G ((u2.setCell ⟨w.heap.size, 0, none⟩ (.int .i64 0)).setCell ⟨w.heap.size + 1, 0, none⟩ (.int .i64 0)) := hG u2 _ G2 (fun k h1 h2 => (Below.heap_setCell _ _ _ k h2).trans (Below.heap_setCell _ _ _ k h1))
    generalize (u2.setCell ⟨w.heap.size, 0, none⟩ (.int .i64 0)).setCell ⟨w.heap.size + 1, 0, none⟩ (.int .i64 0) = W9 at *
    simp [Leaves, settle, results, Tryd.results25, go_sem, x0, x1]
    exact ⟨rfl, GG, FF⟩

end Go.Proofs.YtmoimmghmmomlaaDoor
