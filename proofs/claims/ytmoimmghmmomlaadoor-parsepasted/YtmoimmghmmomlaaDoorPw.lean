/- An atom. -/
import Derived.Test.YtmoimmghmmomlaaDoorPv
namespace Go.Proofs.YtmoimmghmmomlaaDoor
open Go.RowKit Go.BigFrame
set_option linter.unusedVariables false
set_option linter.unusedSimpArgs false

section
variable (w : World) (d g : Nat) (e0 : Int) (b t : Nat)
/-- A node laid down behind tokens that are taken. -/
theorem Okp.add {w : World} {d g : Nat} {e0 : Int} {b t : Nat} {s : Ps} {u v : World} (O : Okp w d g e0 b t s) {tl : List Tok} (D : De u d g e0 tl s.o) (K : Kd d w.heap.size w u) {n : Nd} {a : Int} (T : Tr v b t (s.ns ++ [n]) (s.sp ++ [a])) (B : Below b u v) (Q : KT u v) (hl : tl.length < s.ts.length) : Okp v d g e0 b t (s.add tl n a) ∧ Kl d b w v := by
  have h1 := O.len
  have h2 := O.sps
  refine ⟨⟨D.low O.db B, T, O.db, Nat.le_trans O.bw (Nat.le_trans K.size B.size), O.o32, ?_, ?_⟩, (Kl.of O.de O.bw K).trans ⟨Kd.lowB B, Q⟩⟩
  · simp only [Ps.add, List.length_append, List.length_cons, List.length_nil]; omega
  · simp only [Ps.add, List.length_append, List.length_cons, List.length_nil]; omega
set_option maxRecDepth 100000 in
set_option maxHeartbeats 4000000 in
theorem atom_plain (tk : Tok) (tl : List Tok) (o : Nat) (ns : List Nd) (sp : List Int) (n : Nd) (hn : leafP (tk :: tl) = .ok (n, tl)) (hk : tk.k = 2 ∧ n = ⟨1, tk.n, eS, eS, -1, -1⟩ ∨ tk.k = 44 ∧ n = ⟨2, 0, eS, eS, -1, -1⟩ ∨ tk.k = 45 ∧ n = ⟨3, 0, eS, eS, -1, -1⟩) (O : Okp w d g e0 b t ⟨tk :: tl, o, ns, sp⟩) :
    Calls Tryd.prog 122 #[.pointer (some ⟨d, 0, none⟩), .pointer (some ⟨t, 0, none⟩)] w (LevP w d g e0 b t (leafR ⟨tk :: tl, o, ns, sp⟩)) := by
  have D := O.de
  have hlen := O.len
  have hsps := O.sps
  simp only [List.length_cons] at hlen hsps
  have c1 := place_any w d g e0 o _ D
  have c2 := ahead_any w d g e0 o _ D
  have c3 := pass_any w d g e0 o tk tl D
  have ep : plc e0 (tk :: tl) = tk.a := rfl
  have ek : kd (tk :: tl) = tk.k := rfl
  rw [ep] at c1
  rw [ek] at c2
  simp only [tokA] at c3
  have f2 := tokF2
  have e9 : leafR ⟨tk :: tl, o, ns, sp⟩ = .ok (Ps.add ⟨tk :: tl, o, ns, sp⟩ tl n tk.a) := by unfold leafR; simp only [hn]; rfl
  have c4 := fun u (K : Kd d w.heap.size w u) => add_any u b t ns sp tk.a n (O.tr.kd O.db K) (Nat.le_trans O.bw K.size) (by omega) (by omega)
  simp only [ndA] at c4
  clear hn
  rcases hk with ⟨hk, rfl⟩ | ⟨hk, rfl⟩ | ⟨hk, rfl⟩
  all_goals
    rw [hk] at c2
    clear hk
    go_enter Tryd.func122, Tryd.ntmps122
    go_wp2_with (first
      | (go_at_call 69; (with_reducible refine c1.mono ?_); rintro e u ⟨rfl, rfl⟩)
      | (go_at_call 67; (with_reducible refine c2.mono ?_); rintro e u ⟨rfl, rfl⟩)
      | (go_at_call 68; (with_reducible refine c3.mono ?_); rintro e u3 ⟨rfl, D3, K3⟩)
      | (go_at_call 104; (with_reducible refine (c4 _ K3).mono ?_); rintro e u4 ⟨rfl, T4, B4, Q4⟩))
    go_end0
    obtain ⟨O9, L9⟩ := O.add D3 K3 T4 B4 Q4 (by simp)
    exact LevP.good e9 O9 L9
set_option maxRecDepth 100000 in
set_option maxHeartbeats 4000000 in
theorem atom_name (tk : Tok) (tl : List Tok) (o : Nat) (ns : List Nd) (sp : List Int) (hk : tk.k = 1) (O : Okp w d g e0 b t ⟨tk :: tl, o, ns, sp⟩) :
    Calls Tryd.prog 122 #[.pointer (some ⟨d, 0, none⟩), .pointer (some ⟨t, 0, none⟩)] w (LevP w d g e0 b t (leafR ⟨tk :: tl, o, ns, sp⟩)) := by
  have D := O.de
  have hlen := O.len
  have hsps := O.sps
  simp only [List.length_cons] at hlen hsps
  have c1 := place_any w d g e0 o _ D
  have c2 := ahead_any w d g e0 o _ D
  have c3 := attribute_any w d g e0 o 4 _ D
  have ep : plc e0 (tk :: tl) = tk.a := rfl
  have ek : kd (tk :: tl) = tk.k := rfl
  rw [ep] at c1
  rw [ek, hk] at c2
  have el : leafP (tk :: tl) = attrP 4 (tk :: tl) := by simp [leafP, hk]
  cases hn : attrP 4 (tk :: tl) with
  | error x =>
    rw [hn] at c3
    have e9 : leafR ⟨tk :: tl, o, ns, sp⟩ = .bad 40 x := by unfold leafR; simp only [el, hn]
    clear hk el hn
    go_enter Tryd.func122, Tryd.ntmps122
    go_wp2_with (first
      | (go_at_call 69; (with_reducible refine c1.mono ?_); rintro e u ⟨rfl, rfl⟩)
      | (go_at_call 67; (with_reducible refine c2.mono ?_); rintro e u ⟨rfl, rfl⟩)
      | (go_at_call 124; (with_reducible refine c3.mono ?_); rintro e u3 ⟨rfl, K3⟩))
    exact ⟨rfl, LevP.fail rfl (Kl.of D O.bw K3)⟩
  | ok r =>
    obtain ⟨n, t3⟩ := r
    rw [hn] at c3
    have e9 : leafR ⟨tk :: tl, o, ns, sp⟩ = .ok (Ps.add ⟨tk :: tl, o, ns, sp⟩ t3 n tk.a) := by unfold leafR; simp only [el, hn]; rfl
    have hl := leafP_len (el.trans hn)
    replace c3 : Calls Tryd.prog 124 #[.pointer (some ⟨d, 0, none⟩), .int .i64 4] w (fun e w' => e = .returned (.agg #[.int .i64 n.op, .int .i64 n.n, .string n.v, .string n.x, .int .i64 n.l, .int .i64 n.r]) ∧ De w' d g e0 t3 o ∧ Kd d w.heap.size w w') := c3
    have c4 := fun u (K : Kd d w.heap.size w u) => add_any u b t ns sp tk.a n (O.tr.kd O.db K) (Nat.le_trans O.bw K.size) (by omega) (by omega)
    simp only [ndA] at c4
    clear hk el hn
    go_enter Tryd.func122, Tryd.ntmps122
    go_wp2_with (first
      | (go_at_call 69; (with_reducible refine c1.mono ?_); rintro e u ⟨rfl, rfl⟩)
      | (go_at_call 67; (with_reducible refine c2.mono ?_); rintro e u ⟨rfl, rfl⟩)
      | (go_at_call 124; (with_reducible refine c3.mono ?_); rintro e u3 ⟨rfl, D3, K3⟩)
      | (go_at_call 104; (with_reducible refine (c4 _ K3).mono ?_); rintro e u4 ⟨rfl, T4, B4, Q4⟩))
    go_end0
    obtain ⟨O9, L9⟩ := O.add D3 K3 T4 B4 Q4 hl
    exact LevP.good e9 O9 L9
set_option maxRecDepth 100000 in
set_option maxHeartbeats 4000000 in
theorem atom_count (tk : Tok) (tl : List Tok) (o : Nat) (ns : List Nd) (sp : List Int) (hk : tk.k = 46) (O : Okp w d g e0 b t ⟨tk :: tl, o, ns, sp⟩) :
    Calls Tryd.prog 122 #[.pointer (some ⟨d, 0, none⟩), .pointer (some ⟨t, 0, none⟩)] w (LevP w d g e0 b t (leafR ⟨tk :: tl, o, ns, sp⟩)) := by
  have D := O.de
  have hlen := O.len
  have hsps := O.sps
  simp only [List.length_cons] at hlen hsps
  have c1 := place_any w d g e0 o _ D
  have c2 := ahead_any w d g e0 o _ D
  have c3 := count_any w d g e0 o tk tl D
  have ep : plc e0 (tk :: tl) = tk.a := rfl
  have ek : kd (tk :: tl) = tk.k := rfl
  rw [ep] at c1
  rw [ek, hk] at c2
  have el : leafP (tk :: tl) = countP tl := by simp [leafP, hk]
  cases hn : countP tl with
  | error x =>
    rw [hn] at c3
    have e9 : leafR ⟨tk :: tl, o, ns, sp⟩ = .bad 40 x := by unfold leafR; simp only [el, hn]
    clear hk el hn
    go_enter Tryd.func122, Tryd.ntmps122
    go_wp2_with (first
      | (go_at_call 69; (with_reducible refine c1.mono ?_); rintro e u ⟨rfl, rfl⟩)
      | (go_at_call 67; (with_reducible refine c2.mono ?_); rintro e u ⟨rfl, rfl⟩)
      | (go_at_call 125; (with_reducible refine c3.mono ?_); rintro e u3 ⟨rfl, K3⟩))
    exact ⟨rfl, LevP.fail rfl (Kl.of D O.bw K3)⟩
  | ok r =>
    obtain ⟨n, t3⟩ := r
    rw [hn] at c3
    have e9 : leafR ⟨tk :: tl, o, ns, sp⟩ = .ok (Ps.add ⟨tk :: tl, o, ns, sp⟩ t3 n tk.a) := by unfold leafR; simp only [el, hn]; rfl
    have hl := leafP_len (el.trans hn)
    replace c3 : Calls Tryd.prog 125 #[.pointer (some ⟨d, 0, none⟩)] w (fun e w' => e = .returned (.agg #[.int .i64 n.op, .int .i64 n.n, .string n.v, .string n.x, .int .i64 n.l, .int .i64 n.r]) ∧ De w' d g e0 t3 o ∧ Kd d w.heap.size w w') := c3
    have c4 := fun u (K : Kd d w.heap.size w u) => add_any u b t ns sp tk.a n (O.tr.kd O.db K) (Nat.le_trans O.bw K.size) (by omega) (by omega)
    simp only [ndA] at c4
    clear hk el hn
    go_enter Tryd.func122, Tryd.ntmps122
    go_wp2_with (first
      | (go_at_call 69; (with_reducible refine c1.mono ?_); rintro e u ⟨rfl, rfl⟩)
      | (go_at_call 67; (with_reducible refine c2.mono ?_); rintro e u ⟨rfl, rfl⟩)
      | (go_at_call 125; (with_reducible refine c3.mono ?_); rintro e u3 ⟨rfl, D3, K3⟩)
      | (go_at_call 104; (with_reducible refine (c4 _ K3).mono ?_); rintro e u4 ⟨rfl, T4, B4, Q4⟩))
    go_end0
    obtain ⟨O9, L9⟩ := O.add D3 K3 T4 B4 Q4 hl
    exact LevP.good e9 O9 L9
set_option maxRecDepth 100000 in
set_option maxHeartbeats 4000000 in
theorem atom_agg (tk : Tok) (tl : List Tok) (o : Nat) (ns : List Nd) (sp : List Int) (hk : 47 ≤ tk.k ∧ tk.k ≤ 52) (O : Okp w d g e0 b t ⟨tk :: tl, o, ns, sp⟩) :
    Calls Tryd.prog 122 #[.pointer (some ⟨d, 0, none⟩), .pointer (some ⟨t, 0, none⟩)] w (LevP w d g e0 b t (leafR ⟨tk :: tl, o, ns, sp⟩)) := by
  have D := O.de
  have hlen := O.len
  have hsps := O.sps
  simp only [List.length_cons] at hlen hsps
  have c1 := place_any w d g e0 o _ D
  have c2 := ahead_any w d g e0 o _ D
  have c3 := aggregate_any w d g e0 o tk tl hk D
  have ep : plc e0 (tk :: tl) = tk.a := rfl
  have ek : kd (tk :: tl) = tk.k := rfl
  rw [ep] at c1
  rw [ek] at c2
  have el : leafP (tk :: tl) = aggP (6 + (tk.k - 47)) tl := by
    simp only [leafP]
    rw [if_neg (by omega), if_neg (by omega), if_neg (by omega), if_neg (by omega), if_neg (by omega), if_pos hk]
  have hk6 : tk.k = 47 ∨ tk.k = 48 ∨ tk.k = 49 ∨ tk.k = 50 ∨ tk.k = 51 ∨ tk.k = 52 := by omega
  cases hn : aggP (6 + (tk.k - 47)) tl with
  | error x =>
    rw [hn] at c3
    have e9 : leafR ⟨tk :: tl, o, ns, sp⟩ = .bad 40 x := by unfold leafR; simp only [el, hn]
    clear hk el hn
    rcases hk6 with hk | hk | hk | hk | hk | hk
    all_goals
      rw [hk] at c2
      clear hk
      go_enter Tryd.func122, Tryd.ntmps122
      go_wp2_with (first
        | (go_at_call 69; (with_reducible refine c1.mono ?_); rintro e u ⟨rfl, rfl⟩)
        | (go_at_call 67; (with_reducible refine c2.mono ?_); rintro e u ⟨rfl, rfl⟩)
        | (go_at_call 126; (with_reducible refine c3.mono ?_); rintro e u3 ⟨rfl, K3⟩))
      exact ⟨rfl, LevP.fail rfl (Kl.of D O.bw K3)⟩
  | ok r =>
    obtain ⟨n, t3⟩ := r
    rw [hn] at c3
    have e9 : leafR ⟨tk :: tl, o, ns, sp⟩ = .ok (Ps.add ⟨tk :: tl, o, ns, sp⟩ t3 n tk.a) := by unfold leafR; simp only [el, hn]; rfl
    have hl := leafP_len (el.trans hn)
    replace c3 : Calls Tryd.prog 126 #[.pointer (some ⟨d, 0, none⟩)] w (fun e w' => e = .returned (.agg #[.int .i64 n.op, .int .i64 n.n, .string n.v, .string n.x, .int .i64 n.l, .int .i64 n.r]) ∧ De w' d g e0 t3 o ∧ Kd d w.heap.size w w') := c3
    have c4 := fun u (K : Kd d w.heap.size w u) => add_any u b t ns sp tk.a n (O.tr.kd O.db K) (Nat.le_trans O.bw K.size) (by omega) (by omega)
    simp only [ndA] at c4
    clear hk el hn
    rcases hk6 with hk | hk | hk | hk | hk | hk
    all_goals
      rw [hk] at c2
      clear hk
      go_enter Tryd.func122, Tryd.ntmps122
      go_wp2_with (first
        | (go_at_call 69; (with_reducible refine c1.mono ?_); rintro e u ⟨rfl, rfl⟩)
        | (go_at_call 67; (with_reducible refine c2.mono ?_); rintro e u ⟨rfl, rfl⟩)
        | (go_at_call 126; (with_reducible refine c3.mono ?_); rintro e u3 ⟨rfl, D3, K3⟩)
        | (go_at_call 104; (with_reducible refine (c4 _ K3).mono ?_); rintro e u4 ⟨rfl, T4, B4, Q4⟩))
      go_end0
      obtain ⟨O9, L9⟩ := O.add D3 K3 T4 B4 Q4 hl
      exact LevP.good e9 O9 L9
set_option maxRecDepth 100000 in
set_option maxHeartbeats 4000000 in
theorem atom_none (s : Ps) (hk : kd s.ts ≠ 1 ∧ kd s.ts ≠ 2 ∧ kd s.ts ≠ 3 ∧ kd s.ts ≠ 44 ∧ kd s.ts ≠ 45 ∧ kd s.ts ≠ 46 ∧ ¬ (47 ≤ kd s.ts ∧ kd s.ts ≤ 52)) (O : Okp w d g e0 b t s) :
    Calls Tryd.prog 122 #[.pointer (some ⟨d, 0, none⟩), .pointer (some ⟨t, 0, none⟩)] w (LevP w d g e0 b t (leafR s)) := by
  have D := O.de
  have c1 := place_any w d g e0 s.o _ D
  have c2 := ahead_any w d g e0 s.o _ D
  have c3 := giveUp_any w d g e0 s.o 40 _ D
  obtain ⟨h1, h2, h3, h44, h45, h46, h47⟩ := hk
  have e9 : leafR s = .bad 40 s.ts := by
    unfold leafR
    cases hs : s.ts with
    | nil => rfl
    | cons tk tl =>
      rw [hs] at h1 h2 h3 h44 h45 h46 h47
      simp only [kd] at h1 h2 h3 h44 h45 h46 h47
      simp only [leafP]
      rw [if_neg h2, if_neg h44, if_neg h45, if_neg h1, if_neg h46, if_neg h47]
  have q1 : (kd s.ts == 1) = false := by simpa using h1
  have q2 : (kd s.ts == 2) = false := by simpa using h2
  have q3 : (kd s.ts == 3) = false := by simpa using h3
  have q4 : (kd s.ts == 44) = false := by simpa using h44
  have q5 : (kd s.ts == 45) = false := by simpa using h45
  have q6 : (kd s.ts == 46) = false := by simpa using h46
  have q7 : (kd s.ts == 47) = false := by simp; omega
  have q8 : (kd s.ts == 48) = false := by simp; omega
  have q9 : (kd s.ts == 49) = false := by simp; omega
  have q10 : (kd s.ts == 50) = false := by simp; omega
  have q11 : (kd s.ts == 51) = false := by simp; omega
  have q12 : (kd s.ts == 52) = false := by simp; omega
  clear h1 h2 h3 h44 h45 h46 h47
  generalize kd s.ts = k at *
  go_enter Tryd.func122, Tryd.ntmps122
  go_wp2_with (first
    | (go_at_call 69; (with_reducible refine c1.mono ?_); rintro e u ⟨rfl, rfl⟩)
    | (go_at_call 67; (with_reducible refine c2.mono ?_); rintro e u ⟨rfl, rfl⟩)
    | (go_at_call 66; (with_reducible refine c3.mono ?_); rintro e u3 ⟨rfl, rfl⟩))
  exact ⟨rfl, LevP.fail rfl (Kl.refl _ _ _)⟩
set_option maxRecDepth 100000 in
set_option maxHeartbeats 4000000 in
theorem atom_open (r : Rs) (tk : Tok) (tl : List Tok) (o : Nat) (ns : List Nd) (sp : List Int) (hk : tk.k = 3) (O : Okp w d g e0 b t ⟨tk :: tl, o, ns, sp⟩)
    (hB : Calls Tryd.prog 123 #[.pointer (some ⟨d, 0, none⟩), .pointer (some ⟨t, 0, none⟩)] w (LevP w d g e0 b t r)) :
    Calls Tryd.prog 122 #[.pointer (some ⟨d, 0, none⟩), .pointer (some ⟨t, 0, none⟩)] w (LevP w d g e0 b t r) := by
  have D := O.de
  have c1 := place_any w d g e0 o _ D
  have c2 := ahead_any w d g e0 o _ D
  have ek : kd (tk :: tl) = 3 := hk
  rw [ek] at c2
  clear hk ek
  cases r with
  | bad c x =>
    go_enter Tryd.func122, Tryd.ntmps122
    go_wp2_with (first
      | (go_at_call 69; (with_reducible refine c1.mono ?_); rintro e u ⟨rfl, rfl⟩)
      | (go_at_call 67; (with_reducible refine c2.mono ?_); rintro e u ⟨rfl, rfl⟩)
      | (go_at_call 123; (with_reducible refine hB.mono ?_); rintro e u3 ⟨rfl, K3⟩))
    exact ⟨rfl, LevP.fail rfl K3⟩
  | ok s =>
    go_enter Tryd.func122, Tryd.ntmps122
    go_wp2_with (first
      | (go_at_call 69; (with_reducible refine c1.mono ?_); rintro e u ⟨rfl, rfl⟩)
      | (go_at_call 67; (with_reducible refine c2.mono ?_); rintro e u ⟨rfl, rfl⟩)
      | (go_at_call 123; (with_reducible refine hB.mono ?_); rintro e u3 ⟨rfl, O3, K3⟩))
    go_end0
    exact LevP.good rfl O3 K3
theorem atom_any (s : Ps) (O : Okp w d g e0 b t s)
    (hF : ∀ (s' : Ps) u, s'.ts.length < s.ts.length → Okp u d g e0 b t s' → Calls Tryd.prog 65 #[.pointer (some ⟨d, 0, none⟩), .pointer (some ⟨t, 0, none⟩)] u (LevP u d g e0 b t (rdT (.at 0) s'))) :
    Calls Tryd.prog 122 #[.pointer (some ⟨d, 0, none⟩), .pointer (some ⟨t, 0, none⟩)] w (LevP w d g e0 b t (rdT (.at 7) s)) := by
  have R := rdT_at 7 (Nat.le_refl _) s
  obtain ⟨ts, o, ns, sp⟩ := s
  have ho := O.o32
  by_cases h3 : kd ts = 3
  · cases ts with
    | nil => simp [kd] at h3
    | cons tk tl =>
      by_cases h32 : o = 32
      · subst h32
        rw [R.det (.bdeep h3)]
        exact atom_open w d g e0 b t _ tk tl 32 ns sp h3 O (inBrackets_deep w d g e0 b t tk tl ns sp O)
      · have R0 := rdT_at 0 (by omega) ⟨tl, o + 1, ns, sp⟩
        rw [R.det (.brk h3 h32 R0)]
        exact atom_open w d g e0 b t _ tk tl o ns sp h3 O (inBrackets_any w d g e0 b t _ tk tl o (by simp only at ho; omega) ns sp O R0.inv (fun u Ou => hF _ u (by simp) Ou))
  · rw [R.det (.leaf h3)]
    by_cases hn : kd ts ≠ 1 ∧ kd ts ≠ 2 ∧ kd ts ≠ 3 ∧ kd ts ≠ 44 ∧ kd ts ≠ 45 ∧ kd ts ≠ 46 ∧ ¬ (47 ≤ kd ts ∧ kd ts ≤ 52)
    · exact atom_none w d g e0 b t _ hn O
    · cases ts with
      | nil => simp [kd] at hn
      | cons tk tl =>
        simp only [kd] at hn h3
        by_cases h1 : tk.k = 1
        · exact atom_name w d g e0 b t tk tl o ns sp h1 O
        by_cases h2 : tk.k = 2
        · exact atom_plain w d g e0 b t tk tl o ns sp _ (by simp [leafP, h2]) (.inl ⟨h2, rfl⟩) O
        by_cases h44 : tk.k = 44
        · exact atom_plain w d g e0 b t tk tl o ns sp _ (by simp [leafP, h44]) (.inr (.inl ⟨h44, rfl⟩)) O
        by_cases h45 : tk.k = 45
        · exact atom_plain w d g e0 b t tk tl o ns sp _ (by simp [leafP, h45]) (.inr (.inr ⟨h45, rfl⟩)) O
        by_cases h46 : tk.k = 46
        · exact atom_count w d g e0 b t tk tl o ns sp h46 O
        · exact atom_agg w d g e0 b t tk tl o ns sp (by omega) O
end

end Go.Proofs.YtmoimmghmmomlaaDoor
