/- Small facts on worlds in which new memory alone was made; regions that draw their order and only read. And what goes with it: 7 texts in one. -/
import Derived.Test.YtnolbpekdikamaaGreatDoorRows
import Derived.WalkKit
import Derived.WalkSpells
import Derived.WalkLawsBesides
import Derived.Deep.RegionWith
import Derived.Deep.Cut
import Derived.Deep.QuietTactic
import Derived.BigQuiet
import Derived.ProofKit
import Derived.WideShapes
import Derived.Laws.OwnMore
import Derived.Shelf.Spec.BitsCarry
namespace Go.Proofs.YtnolbpekdikamaaGreatDoor
open Go.RowKit
set_option linter.unusedVariables false

theorem bcell {W w1 : World} (hb : Below W.heap.size W w1) : (∀ b o, b < W.heap.size → w1.cell? ⟨b, o, none⟩ = W.cell? ⟨b, o, none⟩) ∧ (∀ b o, b < W.heap.size → w1.frozen? ⟨b, o, none⟩ = W.frozen? ⟨b, o, none⟩) :=
  ⟨fun b o h => hb.cell (p := ⟨b, o, none⟩) h, fun b o h => hb.frozen (p := ⟨b, o, none⟩) h⟩
theorem gtrans {a b c : World} (h : Below a.heap.size a b) (k : Below b.heap.size b c) : Below a.heap.size a c := h.trans (k.mono h.size)
theorem galloc {a w : World} (h : Below a.heap.size a w) (o : Obj) : Below a.heap.size a (w.alloc o) := h.alloc h.size o
theorem gset {a w : World} (h : Below a.heap.size a w) {p : Addr} (hp : a.heap.size ≤ p.block) (u : Value) : Below a.heap.size a (w.setCell p u) := h.setCell hp u
theorem lt_of_cell {w : World} {p : Addr} {v : Value} (h : w.cell? p = some v) : p.block < w.heap.size := by
  rcases Nat.lt_or_ge p.block w.heap.size with h' | h'
  · exact h'
  · simp [World.cell?, Array.getElem?_eq_none h'] at h
theorem ret_bool {b : Bool} (h : b = true) : Ending.returned (.bool b) = .returned (.bool true) := by rw [h]

/-- A local of one cell. -/
def One (w : World) (b : Nat) (x : Value) (t : TypeId) : Prop := w.heap[b]? = some (.cells #[x] t (0, 0))
theorem One.at0 {w : World} {b : Nat} {x : Value} {t : TypeId} (h : One w b x t) : w.cell? ⟨b, 0, none⟩ = some x := cell_of_one h
theorem One.free {w : World} {b : Nat} {x : Value} {t : TypeId} (h : One w b x t) : w.frozen? ⟨b, 0, none⟩ = false := free_of_one h
theorem One.lt {w : World} {b : Nat} {x : Value} {t : TypeId} (h : One w b x t) : b < w.heap.size := lt_of_block h
theorem One.new (w : World) (x : Value) (t : TypeId) : One (w.alloc (.cells #[x] t)) w.heap.size x t := by
  show (w.heap.push _)[w.heap.size]? = _
  simp
theorem One.alloc {w : World} {b : Nat} {x : Value} {t : TypeId} (h : One w b x t) (o : Obj) : One (w.alloc o) b x t := (Below.heap_alloc w o b h.lt).trans h
theorem One.keep {w u : World} {b : Nat} {x : Value} {t : TypeId} (h : One w b x t) (G : Below w.heap.size w u) : One u b x t := (G.block b h.lt).trans h
theorem One.set {w : World} {b : Nat} {x : Value} {t : TypeId} (h : One w b x t) (u : Value) : One (w.setCell ⟨b, 0, none⟩ u) b u t := by
  have hlt := h.lt
  unfold One at h
  have h' : w.heap[b] = .cells #[x] t (0, 0) := by simpa [Array.getElem?_eq_getElem hlt] using h
  show (w.heap.modify b _)[b]? = _
  rw [Array.getElem?_eq_getElem (by simpa using hlt), Array.getElem_modify_self, h']
  rfl

/-- The worlds in which nothing of W has turned. -/
structure Ext (W : World) where
  X : World
  h : Below W.heap.size W X
theorem Ext.cell {W : World} (n : Ext W) (b o : Nat) (h : b < W.heap.size) : n.X.cell? ⟨b, o, none⟩ = W.cell? ⟨b, o, none⟩ := n.h.cell (p := ⟨b, o, none⟩) h
theorem wp_region_ext {P : Program} {id : Nat} {Q : Exit → Act → World → Prop} {a : Act} {w : World} {l : List Oper} (hm : P.follows .mixedOrders = true) (hB : Region.lexB .any l.toArray = true)
    (h : wpQuiet P l.toArray (fun X => ∃ n : Ext w, X = n.X) (fun a' => ∀ X, (∃ n : Ext w, X = n.X) → Q .normal a' X) l a) : (Code.region id l.toArray true).wp P Q a w :=
  wp_region_quiet (C := fun X => ∃ n : Ext w, X = n.X) hm hB ⟨⟨_, (Below.refl _ w).drew⟩, rfl⟩ (by simpa using h)
theorem ext_of {P : Program} {f : FuncId} {args : Array Value} {W : World} {n : Ext W} {v : Value}
    (h : Calls P f args n.X fun e w' => e = .returned v ∧ Below n.X.heap.size n.X w') : Calls P f args n.X fun e w'' => e = .returned v ∧ ∃ m : Ext W, w'' = m.X :=
  h.mono fun _ _ ⟨he, hb⟩ => ⟨he, ⟨_, gtrans n.h hb⟩, rfl⟩

theorem own_of_block {w u : World} {base : Nat} {e : TypeId} {size : Nat} {v : Value} {n : Nat} {xs : List Value} (h : w.ownsRow base e size v n xs) (hk : ∀ g cur, base ≤ g → w.heap[g]? = some (.cells cur e (0, 0)) → u.heap[g]? = w.heap[g]?) : u.ownsRow base e size v n xs := by
  obtain ⟨h1, h2⟩ := h
  refine ⟨h1, ?_⟩
  rcases h2 with h2 | ⟨g, cap, cur, rfl, hb, hh, r⟩
  · exact .inl h2
  · exact .inr ⟨g, cap, cur, rfl, hb, (hk g cur hb hh).trans hh, r⟩
theorem own_keep {w u : World} {base : Nat} {e : TypeId} {size : Nat} {v : Value} {n : Nat} {xs : List Value} (h : w.ownsRow base e size v n xs) (G : Below w.heap.size w u) : u.ownsRow base e size v n xs :=
  own_of_block h fun g _ _ hg => G.block g (lt_of_block hg)
theorem own_mono {w : World} {base base' : Nat} {e : TypeId} {size : Nat} {v : Value} {n : Nat} {xs : List Value} (h : w.ownsRow base e size v n xs) (hb : base' ≤ base) : w.ownsRow base' e size v n xs := by
  obtain ⟨h1, h2⟩ := h
  refine ⟨h1, ?_⟩
  rcases h2 with h2 | ⟨g, cap, cur, rfl, hb', r⟩
  · exact .inl h2
  · exact .inr ⟨g, cap, cur, rfl, Nat.le_trans hb hb', r⟩

/-- A node: its operator, number, variable, attribute, operands. -/
structure Nd where
  op : Int
  n : Int
  v : ByteArray
  x : ByteArray
  l : Int
  r : Int
abbrev eS : ByteArray := ⟨#[]⟩
def ndA (n : Nd) : Array Value := #[.int .i64 n.op, .int .i64 n.n, .string n.v, .string n.x, .int .i64 n.l, .int .i64 n.r]
def noNd : Nd := ⟨0, 0, eS, eS, 0, 0⟩
def ndsV (ns : List Nd) : List Value := ns.flatMap fun n => (ndA n).toList
def intsV (l : List Int) : List Value := l.map (Value.int .i64)

end Go.Proofs.YtnolbpekdikamaaGreatDoor
namespace Go.Proofs.YtnolbpekdikamaaGreatDoor
open Go.RowKit
set_option linter.unusedVariables false

def hiOf (x : Int) : Int := (x / 18446744073709551616) % 18446744073709551616
def loOf (x : Int) : Int := x % 18446744073709551616
def carry (x y : Int) : Int := (loOf x + loOf y) / 18446744073709551616
def borrow (x y : Int) : Int := if loOf x < loOf y then 1 else 0
def fitsB (x : Int) : Bool := decide (-9223372036854775808 ≤ x ∧ x ≤ 9223372036854775807)

def fitN (x : Int) : Int := if fitsB x = true then x else 0
theorem fitN_yes (x : Int) (h : fitsB x = true) : fitN x = x := by simp [fitN, h]
theorem fitN_no (x : Int) (h : fitsB x = false) : fitN x = 0 := by simp [fitN, h]
theorem fits_iff (x : Int) : fitsB x = true ↔ -9223372036854775808 ≤ x ∧ x ≤ 9223372036854775807 := by simp [fitsB]
theorem fits_not (x : Int) : fitsB x = false ↔ ¬ (-9223372036854775808 ≤ x ∧ x ≤ 9223372036854775807) := by simp [fitsB]

theorem hi_nn (x : Int) : 0 ≤ hiOf x := by unfold hiOf; omega
theorem lo_nn (x : Int) : 0 ≤ loOf x := by unfold loOf; omega
theorem hi_lt (x : Int) : hiOf x < 18446744073709551616 := by unfold hiOf; omega
theorem lo_lt (x : Int) : loOf x < 18446744073709551616 := by unfold loOf; omega
theorem carry_nn (x y : Int) : 0 ≤ carry x y := by unfold carry loOf; omega
theorem carry_le (x y : Int) : carry x y ≤ 1 := by unfold carry loOf; omega
theorem borrow_nn (x y : Int) : 0 ≤ borrow x y := by unfold borrow; split <;> omega
theorem borrow_le (x y : Int) : borrow x y ≤ 1 := by unfold borrow; split <;> omega

theorem add_lo (x y : Int) : (loOf x + loOf y + 0) % 18446744073709551616 = loOf (x + y) := by unfold loOf; omega
theorem add_ca (x y : Int) : (loOf x + loOf y + 0) / 18446744073709551616 = carry x y := by unfold carry; rw [Int.add_zero]
theorem add_hi (x y : Int) : (hiOf x + hiOf y + carry x y) % 18446744073709551616 = hiOf (x + y) := by unfold hiOf carry loOf; omega

theorem sub_lo (x y : Int) (X Y : Nat) (hX : loOf x = X) (hY : loOf y = Y) : (((X + 18446744073709551616 - Y - 0) % 18446744073709551616 : Nat) : Int) = loOf (x - y) := by
  unfold loOf at *; omega
theorem sub_bo (x y : Int) (X Y : Nat) (hX : loOf x = X) (hY : loOf y = Y) : ((if X < Y + 0 then 1 else 0 : Nat) : Int) = borrow x y := by
  unfold borrow; rw [hX, hY]
  by_cases h : X < Y
  · rw [if_pos (by omega), if_pos (by omega)]; rfl
  · rw [if_neg (by omega), if_neg (by omega)]; rfl
theorem sub_hi (x y : Int) (X Y B : Nat) (hX : hiOf x = X) (hY : hiOf y = Y) (hB : borrow x y = B) : (((X + 18446744073709551616 - Y - B) % 18446744073709551616 : Nat) : Int) = hiOf (x - y) := by
  unfold borrow at hB
  unfold hiOf loOf at *
  split at hB <;> omega

theorem hi_small (n : Int) (h1 : -9223372036854775808 ≤ n) (h2 : n ≤ 9223372036854775807) : IntKind.u64.wrap (n / 9223372036854775808) = hiOf n := by
  rw [IntKind.wrap_u64]; unfold hiOf; omega
theorem lo_small (n : Int) : IntKind.u64.wrap n = loOf n := by
  rw [IntKind.wrap_u64]; unfold loOf; omega
/-- The number whose low half is x's, read as a signed one. -/
theorem wrap_lo (x : Int) : wrap64 (loOf x) = (x + 9223372036854775808) % 18446744073709551616 - 9223372036854775808 := by
  unfold wrap64 loOf; omega
theorem lo_back (x : Int) (h : fitsB x = true) : wrap64 (loOf x) = x := by
  rw [fits_iff] at h; rw [wrap_lo]; omega
theorem wrap_lo_lo (x : Int) : loOf (wrap64 (loOf x)) = loOf x := by rw [wrap_lo]; unfold loOf; omega
theorem wrap_lo_hi (x : Int) (h : fitsB x = false) (h1 : -170141183460469231731687303715884105728 ≤ x) (h2 : x < 170141183460469231731687303715884105728) : ¬ hiOf (wrap64 (loOf x)) = hiOf x := by
  rw [fits_not] at h; rw [wrap_lo]; unfold hiOf; omega
theorem wrap_ge (x : Int) : -9223372036854775808 ≤ wrap64 x := by unfold wrap64; omega
theorem wrap_le (x : Int) : wrap64 x ≤ 9223372036854775807 := by unfold wrap64; omega

/-- A known result, or none: of two operands (known or not) and the number that the document names. -/
def opK (ka kb : Bool) (x : Int) : Bool := ka && (kb && fitsB x)
def opN (ka kb : Bool) (x : Int) : Int := if ka = true ∧ kb = true then fitN x else 0
theorem opK_tt (x : Int) : opK true true x = fitsB x := rfl
theorem opN_tt (x : Int) : opN true true x = fitN x := by simp [opN]
theorem opK_f1 (kb : Bool) (x : Int) : opK false kb x = false := rfl
theorem opN_f1 (kb : Bool) (x : Int) : opN false kb x = 0 := by simp [opN]
theorem opK_f2 (ka : Bool) (x : Int) : opK ka false x = false := by cases ka <;> rfl
theorem opN_f2 (ka : Bool) (x : Int) : opN ka false x = 0 := by simp [opN]
theorem opK_no (ka kb : Bool) (x : Int) (h : (ka && kb) = false) : opK ka kb x = false := by cases ka <;> cases kb <;> simp_all [opK]
theorem opN_no (ka kb : Bool) (x : Int) (h : (ka && kb) = false) : opN ka kb x = 0 := by cases ka <;> cases kb <;> simp_all [opN]
theorem fitN_fits (x : Int) : fitsB (fitN x) = true := by
  unfold fitN; split
  · assumption
  · rfl
theorem opN_fits (ka kb : Bool) (x : Int) : fitsB (opN ka kb x) = true := by
  unfold opN; split
  · exact fitN_fits x
  · rfl

end Go.Proofs.YtnolbpekdikamaaGreatDoor
namespace Go.Proofs.YtnolbpekdikamaaGreatDoor
open Go.RowKit
set_option linter.unusedVariables false

theorem fits_wf {a : Int} (h : (Lit.int .i64 a).wf = true) : fitsB a = true := by
  rw [fits_iff]; simp [Lit.wf] at h; exact h

set_option maxHeartbeats 400000 in
theorem known_any (n : Int) (w : World) :
    Calls Tryz.prog 53 #[.int .i64 n] w fun e w' => e = .returned (.agg #[.bool true, .int .i64 n]) ∧ Below w.heap.size w w' := by
  go_enter Tryz.func53, Tryz.ntmps53
  go_wp2
  exact bodyPost_ret (v := .agg #[.bool true, .int .i64 n]) (by simp [results, Tryz.results53, go_sem]) rfl ⟨rfl, (Below.refl _ _).alloc (Nat.le_refl _) _⟩

end Go.Proofs.YtnolbpekdikamaaGreatDoor
namespace Go.Proofs.YtnolbpekdikamaaGreatDoor
open Go.RowKit
set_option linter.unusedVariables false

theorem add64_lo (x y : Int) (w : World) :
    (callFunc 94 #[.int .u64 (loOf x), .int .u64 (loOf y), .int .u64 0]).run Tryz.prog w = .ok (.value (.tuple #[.int .u64 (loOf (x + y)), .int .u64 (carry x y)])) w := by
  rw [run_callFunc_extern Tryz.func94 (by kernel_rfl) (by kernel_rfl) (by kernel_rfl) (e := add64Entry) (by kernel_rfl), run_add64 _ _ _ (lo_nn x) (lo_nn y) (by omega) (by omega), add_lo, add_ca]
  rfl

theorem add64_hi (x y : Int) (w : World) :
    (callFunc 94 #[.int .u64 (hiOf x), .int .u64 (hiOf y), .int .u64 (carry x y)]).run Tryz.prog w = .ok (.value (.tuple #[.int .u64 (hiOf (x + y)), .int .u64 ((hiOf x + hiOf y + carry x y) / 18446744073709551616)])) w := by
  rw [run_callFunc_extern Tryz.func94 (by kernel_rfl) (by kernel_rfl) (by kernel_rfl) (e := add64Entry) (by kernel_rfl), run_add64 _ _ _ (hi_nn x) (hi_nn y) (carry_nn x y) (carry_le x y), add_hi]
  rfl

theorem sub64_lo (x y : Int) (w : World) :
    (callFunc 93 #[.int .u64 (loOf x), .int .u64 (loOf y), .int .u64 0]).run Tryz.prog w = .ok (.value (.tuple #[.int .u64 (loOf (x - y)), .int .u64 (borrow x y)])) w := by
  rw [run_callFunc_extern Tryz.func93 (by kernel_rfl) (by kernel_rfl) (by kernel_rfl) (e := sub64Entry) (by kernel_rfl)]
  obtain ⟨X, hX⟩ := Int.eq_ofNat_of_zero_le (lo_nn x)
  obtain ⟨Y, hY⟩ := Int.eq_ofNat_of_zero_le (lo_nn y)
  have h0 := run_sub64 (P := Tryz.prog) X Y 0 (by omega) w
  have e0 : ((0 : Nat) : Int) = 0 := rfl
  rw [sub_lo x y X Y hX hY, sub_bo x y X Y hX hY, e0] at h0
  rw [hX, hY, h0]
  rfl

theorem sub64_hi (x y : Int) : ∃ j, ∀ w,
    (callFunc 93 #[.int .u64 (hiOf x), .int .u64 (hiOf y), .int .u64 (borrow x y)]).run Tryz.prog w = .ok (.value (.tuple #[.int .u64 (hiOf (x - y)), .int .u64 j])) w := by
  obtain ⟨X, hX⟩ := Int.eq_ofNat_of_zero_le (hi_nn x)
  obtain ⟨Y, hY⟩ := Int.eq_ofNat_of_zero_le (hi_nn y)
  obtain ⟨B, hB⟩ := Int.eq_ofNat_of_zero_le (borrow_nn x y)
  refine ⟨((if X < Y + B then 1 else 0 : Nat) : Int), fun w => ?_⟩
  rw [run_callFunc_extern Tryz.func93 (by kernel_rfl) (by kernel_rfl) (by kernel_rfl) (e := sub64Entry) (by kernel_rfl)]
  have h0 := run_sub64 (P := Tryz.prog) X Y B (by have := borrow_le x y; omega) w
  rw [sub_hi x y X Y B hX hY hB] at h0
  rw [hX, hY, hB, h0]
  rfl

set_option maxHeartbeats 400000 in
theorem both_any (ka kb : Bool) (a b : Int) (w : World) :
    Calls Tryz.prog 77 #[.agg #[.bool ka, .int .i64 a], .agg #[.bool kb, .int .i64 b]] w fun e w' => e = .returned (.bool (ka && kb)) ∧ Below w.heap.size w w' := by
  cases ka
  all_goals
    go_enter Tryz.func77, Tryz.ntmps77
    go_wp2
    go_ret
    exact ⟨rfl, ((Below.refl _ _).alloc (Nat.le_refl _) _).alloc (by simp) _⟩

set_option maxHeartbeats 400000 in
theorem widen_any (n : Int) (w : World) (h1 : -9223372036854775808 ≤ n) (h2 : n ≤ 9223372036854775807) :
    Calls Tryz.prog 78 #[.int .i64 n] w fun e w' => e = .returned (.agg #[.int .u64 (hiOf n), .int .u64 (loOf n)]) ∧ Below w.heap.size w w' := by
  have e1 := hi_small n h1 h2
  have e2 := lo_small n
  go_enter Tryz.func78, Tryz.ntmps78
  go_wp2
  refine bodyPost_ret (v := .agg #[.int .u64 (hiOf n), .int .u64 (loOf n)]) (by simp [results, Tryz.results78, go_sem]) rfl ⟨rfl, (Below.refl _ _).alloc (Nat.le_refl _) _⟩

set_option maxHeartbeats 400000 in
theorem plus_any (x y : Int) (w : World) :
    Calls Tryz.prog 82 #[.agg #[.int .u64 (hiOf x), .int .u64 (loOf x)], .agg #[.int .u64 (hiOf y), .int .u64 (loOf y)]] w fun e w' => e = .returned (.agg #[.int .u64 (hiOf (x + y)), .int .u64 (loOf (x + y))]) ∧ Below w.heap.size w w' := by
  have e1 := add64_lo x y
  have e2 := add64_hi x y
  go_enter Tryz.func82, Tryz.ntmps82
  go_wp2
  exact bodyPost_ret (v := .agg #[.int .u64 (hiOf (x + y)), .int .u64 (loOf (x + y))]) (by simp [results, Tryz.results82, go_sem]) rfl ⟨rfl, (((Below.refl _ _).alloc (Nat.le_refl _) _).alloc (by simp) _).alloc (by simp; omega) _⟩

set_option maxHeartbeats 400000 in
theorem minus_any (x y : Int) (w : World) :
    Calls Tryz.prog 79 #[.agg #[.int .u64 (hiOf x), .int .u64 (loOf x)], .agg #[.int .u64 (hiOf y), .int .u64 (loOf y)]] w fun e w' => e = .returned (.agg #[.int .u64 (hiOf (x - y)), .int .u64 (loOf (x - y))]) ∧ Below w.heap.size w w' := by
  have e1 := sub64_lo x y
  obtain ⟨j, e2⟩ := sub64_hi x y
  go_enter Tryz.func79, Tryz.ntmps79
  go_wp2
  exact bodyPost_ret (v := .agg #[.int .u64 (hiOf (x - y)), .int .u64 (loOf (x - y))]) (by simp [results, Tryz.results79, go_sem]) rfl ⟨rfl, (((Below.refl _ _).alloc (Nat.le_refl _) _).alloc (by simp) _).alloc (by simp; omega) _⟩

set_option maxHeartbeats 400000 in
theorem narrow_yes (x : Int) (w : World) (h : fitsB x = true) :
    Calls Tryz.prog 80 #[.agg #[.int .u64 (hiOf x), .int .u64 (loOf x)]] w fun e w' => e = .returned (.agg #[.bool true, .int .i64 x]) ∧ Below w.heap.size w w' := by
  have hx := (fits_iff x).1 h
  have e1 := lo_back x h
  go_enter Tryz.func80, Tryz.ntmps80
  go_wp2
  go_region_with (go_at_call 78; refine (widen_any _ _ hx.1 hx.2).mono ?_; rintro e w1 ⟨rfl, hb⟩; obtain ⟨hc, hf⟩ := bcell hb)
  all_goals
    obtain ⟨hc, hf⟩ := bcell hb
    have hz : w.heap.size + 1 < w1.heap.size := by have := hb.size; simp at this; omega
    go_wp2_with (go_at_call 53; refine (known_any _ _).mono ?_; rintro e w2 ⟨rfl, hb2⟩; obtain ⟨hc2, hf2⟩ := bcell hb2; have hz2 := hb2.size)
    refine bodyPost_ret (v := .agg #[.bool true, .int .i64 x]) (by simp [results, Tryz.results80, go_sem, hc, hc2, hz]) rfl ⟨rfl, ?_⟩
    exact ((((((Below.refl _ _).alloc (Nat.le_refl _) _).alloc (by simp) _).drew.trans (hb.mono (by simp; omega))).trans (hb2.mono (by omega))).setCell (by simp) _).setCell (by simp) _

set_option maxHeartbeats 400000 in
theorem narrow_no (x : Int) (w : World) (h : fitsB x = false) (h1 : -170141183460469231731687303715884105728 ≤ x) (h2 : x < 170141183460469231731687303715884105728) :
    Calls Tryz.prog 80 #[.agg #[.int .u64 (hiOf x), .int .u64 (loOf x)]] w fun e w' => e = .returned (.agg #[.bool false, .int .i64 0]) ∧ Below w.heap.size w w' := by
  have e1 := wrap_ge (loOf x)
  have e2 := wrap_le (loOf x)
  have e3 := wrap_lo_hi x h h1 h2
  go_enter Tryz.func80, Tryz.ntmps80
  go_wp2
  go_region_with (go_at_call 78; refine (widen_any _ _ e1 e2).mono ?_; rintro e w1 ⟨rfl, hb⟩; obtain ⟨hc, hf⟩ := bcell hb)
  all_goals
    obtain ⟨hc, hf⟩ := bcell hb
    have hz : w.heap.size + 1 < w1.heap.size := by have := hb.size; simp at this; omega
    go_wp2_with (go_at_call 53; refine (known_any _ _).mono ?_; rintro e w2 ⟨rfl, hb2⟩; obtain ⟨hc2, hf2⟩ := bcell hb2; have hz2 := hb2.size)
    refine bodyPost_ret (v := .agg #[.bool false, .int .i64 0]) (by simp [results, Tryz.results80, go_sem, hc]) rfl ⟨rfl, ?_⟩
    exact (((((Below.refl _ _).alloc (Nat.le_refl _) _).alloc (by simp) _).drew.trans (hb.mono (by simp; omega))).setCell (by simp) _).setCell (by simp) _

theorem narrow_any (x : Int) (w : World) (h1 : -170141183460469231731687303715884105728 ≤ x) (h2 : x < 170141183460469231731687303715884105728) :
    Calls Tryz.prog 80 #[.agg #[.int .u64 (hiOf x), .int .u64 (loOf x)]] w fun e w' => e = .returned (.agg #[.bool (fitsB x), .int .i64 (fitN x)]) ∧ Below w.heap.size w w' := by
  cases h : fitsB x
  · rw [fitN_no x h]; exact narrow_no x w h h1 h2
  · rw [fitN_yes x h]; exact narrow_yes x w h

end Go.Proofs.YtnolbpekdikamaaGreatDoor
namespace Go.Proofs.YtnolbpekdikamaaGreatDoor
open Go.RowKit
set_option linter.unusedVariables false

set_option maxHeartbeats 1000000 in
theorem add_yes (a b : Int) (w : World) (ha : fitsB a = true) (hb : fitsB b = true) :
    Calls Tryz.prog 56 #[.agg #[.bool true, .int .i64 a], .agg #[.bool true, .int .i64 b]] w fun e w' => e = .returned (.agg #[.bool (fitsB (a + b)), .int .i64 (fitN (a + b))]) ∧ Below w.heap.size w w' := by
  have ha' := (fits_iff a).1 ha
  have hb' := (fits_iff b).1 hb
  go_enter Tryz.func56, Tryz.ntmps56
  go_wp2_with (go_at_call 77; refine (both_any _ _ _ _ _).mono ?_; rintro e w0 ⟨rfl, h0⟩; obtain ⟨hc0, hf0⟩ := bcell h0)
  replace h0 := h0.drew
  go_region_with (first
    | (go_at_call 78; refine (widen_any _ _ (by omega) (by omega)).mono ?_; rintro e w1 ⟨rfl, h1⟩; replace h0 := gtrans h0 h1; obtain ⟨hc1, hf1⟩ := bcell h0)
    | (go_at_call 82; refine (plus_any _ _ _).mono ?_; rintro e w1 ⟨rfl, h1⟩; replace h0 := gtrans h0 h1; obtain ⟨hc1, hf1⟩ := bcell h0)
    | (go_at_call 80; refine (narrow_any _ _ (by omega) (by omega)).mono ?_; rintro e w1 ⟨rfl, h1⟩; replace h0 := gtrans h0 h1; obtain ⟨hc1, hf1⟩ := bcell h0))
  all_goals
    obtain ⟨hc, hf⟩ := bcell h0
    go_wp2
    refine bodyPost_ret (v := .agg #[.bool (fitsB (a + b)), .int .i64 (fitN (a + b))]) (by simp [results, Tryz.results56, go_sem, hc]) rfl ⟨rfl, ?_⟩
    exact gset (gset (gtrans (galloc (galloc (galloc (Below.refl _ _) _) _) _) h0) (by simp; omega) _) (by simp; omega) _

set_option maxHeartbeats 400000 in
theorem add_no (ka kb : Bool) (a b : Int) (w : World) (h : (ka && kb) = false) :
    Calls Tryz.prog 56 #[.agg #[.bool ka, .int .i64 a], .agg #[.bool kb, .int .i64 b]] w fun e w' => e = .returned (.agg #[.bool false, .int .i64 0]) ∧ Below w.heap.size w w' := by
  go_enter Tryz.func56, Tryz.ntmps56
  go_wp2_with (go_at_call 77; refine (both_any _ _ _ _ _).mono ?_; rintro e w0 ⟨rfl, h0⟩; obtain ⟨hc0, hf0⟩ := bcell h0)
  refine bodyPost_ret (v := .agg #[.bool false, .int .i64 0]) (by simp [results, Tryz.results56, go_sem, hc0]) rfl ⟨rfl, ?_⟩
  exact gset (gset (gtrans (galloc (galloc (galloc (Below.refl _ _) _) _) _) h0) (by simp; omega) _) (by simp; omega) _

theorem add_any (ka kb : Bool) (a b : Int) (w : World) (ha : fitsB a = true) (hb : fitsB b = true) :
    Calls Tryz.prog 56 #[.agg #[.bool ka, .int .i64 a], .agg #[.bool kb, .int .i64 b]] w fun e w' => e = .returned (.agg #[.bool (opK ka kb (a + b)), .int .i64 (opN ka kb (a + b))]) ∧ Below w.heap.size w w' := by
  cases h : (ka && kb)
  · have e1 : opK ka kb (a + b) = false := opK_no ka kb _ h
    have e2 : opN ka kb (a + b) = 0 := opN_no ka kb _ h
    rw [e1, e2]; exact add_no ka kb a b w h
  · simp only [Bool.and_eq_true] at h
    obtain ⟨rfl, rfl⟩ := h
    rw [opK_tt, opN_tt]; exact add_yes a b w ha hb

set_option maxHeartbeats 1000000 in
theorem sub_yes (a b : Int) (w : World) (ha : fitsB a = true) (hb : fitsB b = true) :
    Calls Tryz.prog 52 #[.agg #[.bool true, .int .i64 a], .agg #[.bool true, .int .i64 b]] w fun e w' => e = .returned (.agg #[.bool (fitsB (a - b)), .int .i64 (fitN (a - b))]) ∧ Below w.heap.size w w' := by
  have ha' := (fits_iff a).1 ha
  have hb' := (fits_iff b).1 hb
  go_enter Tryz.func52, Tryz.ntmps52
  go_wp2_with (go_at_call 77; refine (both_any _ _ _ _ _).mono ?_; rintro e w0 ⟨rfl, h0⟩; obtain ⟨hc0, hf0⟩ := bcell h0)
  replace h0 := h0.drew
  go_region_with (first
    | (go_at_call 78; refine (widen_any _ _ (by omega) (by omega)).mono ?_; rintro e w1 ⟨rfl, h1⟩; replace h0 := gtrans h0 h1; obtain ⟨hc1, hf1⟩ := bcell h0)
    | (go_at_call 79; refine (minus_any _ _ _).mono ?_; rintro e w1 ⟨rfl, h1⟩; replace h0 := gtrans h0 h1; obtain ⟨hc1, hf1⟩ := bcell h0)
    | (go_at_call 80; refine (narrow_any _ _ (by omega) (by omega)).mono ?_; rintro e w1 ⟨rfl, h1⟩; replace h0 := gtrans h0 h1; obtain ⟨hc1, hf1⟩ := bcell h0))
  all_goals
    obtain ⟨hc, hf⟩ := bcell h0
    go_wp2
    refine bodyPost_ret (v := .agg #[.bool (fitsB (a - b)), .int .i64 (fitN (a - b))]) (by simp [results, Tryz.results52, go_sem, hc]) rfl ⟨rfl, ?_⟩
    exact gset (gset (gtrans (galloc (galloc (galloc (Below.refl _ _) _) _) _) h0) (by simp; omega) _) (by simp; omega) _

set_option maxHeartbeats 400000 in
theorem sub_no (ka kb : Bool) (a b : Int) (w : World) (h : (ka && kb) = false) :
    Calls Tryz.prog 52 #[.agg #[.bool ka, .int .i64 a], .agg #[.bool kb, .int .i64 b]] w fun e w' => e = .returned (.agg #[.bool false, .int .i64 0]) ∧ Below w.heap.size w w' := by
  go_enter Tryz.func52, Tryz.ntmps52
  go_wp2_with (go_at_call 77; refine (both_any _ _ _ _ _).mono ?_; rintro e w0 ⟨rfl, h0⟩; obtain ⟨hc0, hf0⟩ := bcell h0)
  refine bodyPost_ret (v := .agg #[.bool false, .int .i64 0]) (by simp [results, Tryz.results52, go_sem, hc0]) rfl ⟨rfl, ?_⟩
  exact gset (gset (gtrans (galloc (galloc (galloc (Below.refl _ _) _) _) _) h0) (by simp; omega) _) (by simp; omega) _

theorem sub_any (ka kb : Bool) (a b : Int) (w : World) (ha : fitsB a = true) (hb : fitsB b = true) :
    Calls Tryz.prog 52 #[.agg #[.bool ka, .int .i64 a], .agg #[.bool kb, .int .i64 b]] w fun e w' => e = .returned (.agg #[.bool (opK ka kb (a - b)), .int .i64 (opN ka kb (a - b))]) ∧ Below w.heap.size w w' := by
  cases h : (ka && kb)
  · have e1 : opK ka kb (a - b) = false := opK_no ka kb _ h
    have e2 : opN ka kb (a - b) = 0 := opN_no ka kb _ h
    rw [e1, e2]; exact sub_no ka kb a b w h
  · simp only [Bool.and_eq_true] at h
    obtain ⟨rfl, rfl⟩ := h
    rw [opK_tt, opN_tt]; exact sub_yes a b w ha hb

set_option maxHeartbeats 400000 in
theorem neg_any (ka : Bool) (a : Int) (w : World) (ha : fitsB a = true) :
    Calls Tryz.prog 31 #[.agg #[.bool ka, .int .i64 a]] w fun e w' => e = .returned (.agg #[.bool (opK true ka (0 - a)), .int .i64 (opN true ka (0 - a))]) ∧ Below w.heap.size w w' := by
  go_enter Tryz.func31, Tryz.ntmps31
  go_wp2
  go_region_with (first
    | (go_at_call 53; refine (known_any _ _).mono ?_; rintro e w0 ⟨rfl, h0⟩; obtain ⟨hc0, hf0⟩ := bcell h0)
    | (go_at_call 52; refine (sub_any _ _ _ _ _ rfl ha).mono ?_; rintro e w1 ⟨rfl, h1⟩; replace h0 := gtrans h0 h1; obtain ⟨hc1, hf1⟩ := bcell h0))
  all_goals
    obtain ⟨hc, hf⟩ := bcell h0
    go_wp2
    refine bodyPost_ret (v := .agg #[.bool (opK true ka (0 - a)), .int .i64 (opN true ka (0 - a))]) (by simp [results, Tryz.results31, go_sem, hc]) rfl ⟨rfl, ?_⟩
    exact gset (gset (gtrans (galloc (galloc (Below.refl _ _) _) _).drew h0) (by simp) _) (by simp) _

end Go.Proofs.YtnolbpekdikamaaGreatDoor
namespace Go.Proofs.YtnolbpekdikamaaGreatDoor
open Go.RowKit
set_option linter.unusedVariables false

theorem tdiv_fits (a b : Int) (ha : fitsB a = true) (h1 : b ≠ -1) : fitsB (a.tdiv b) = true := by
  rw [fits_iff] at *
  have h := Int.natAbs_tdiv a b
  by_cases hb : b.natAbs ≤ 1
  · have : b = 0 ∨ b = 1 := by omega
    rcases this with rfl | rfl
    · simp
    · simp; omega
  · have h2 : a.natAbs / b.natAbs ≤ a.natAbs / 2 := Nat.div_le_div_left (by omega) (by omega)
    have h3 : (a.tdiv b).natAbs ≤ a.natAbs / 2 := by rw [h]; exact h2
    omega
theorem wrap_fits (x : Int) (h : fitsB x = true) : wrap64 x = x := by
  rw [fits_iff] at h; unfold wrap64; omega
theorem tmod_fits (a b : Int) (ha : fitsB a = true) : fitsB (a.tmod b) = true := by
  rw [fits_iff] at *
  have h := Int.natAbs_tmod a b
  have h2 : a.natAbs % b.natAbs ≤ a.natAbs := Nat.mod_le _ _
  rw [← h] at h2
  have h4 : ¬ 0 ≤ a → a.tmod b ≤ 0 := fun h => by
    have := Int.tmod_nonneg (a := -a) b (by omega)
    rw [Int.neg_tmod] at this; omega
  omega

set_option maxHeartbeats 400000 in
theorem div_no (ka kb : Bool) (a b : Int) (w : World) (h : (ka && kb) = false) :
    Calls Tryz.prog 58 #[.agg #[.bool ka, .int .i64 a], .agg #[.bool kb, .int .i64 b]] w fun e w' => e = .returned (.agg #[.bool false, .int .i64 0]) ∧ Below w.heap.size w w' := by
  go_enter Tryz.func58, Tryz.ntmps58
  go_wp2_with (go_at_call 77; refine (both_any _ _ _ _ _).mono ?_; rintro e w0 ⟨rfl, g0⟩; obtain ⟨hc0, hf0⟩ := bcell g0)
  refine bodyPost_ret (v := .agg #[.bool false, .int .i64 0]) (by simp [results, Tryz.results58, go_sem, hc0]) rfl ⟨rfl, ?_⟩
  exact gset (gset (gtrans (galloc (galloc (galloc (Below.refl _ _) _) _) _) g0) (by simp; omega) _) (by simp; omega) _

set_option maxHeartbeats 400000 in
theorem div_zero (a : Int) (w : World) :
    Calls Tryz.prog 58 #[.agg #[.bool true, .int .i64 a], .agg #[.bool true, .int .i64 0]] w fun e w' => e = .returned (.agg #[.bool false, .int .i64 0]) ∧ Below w.heap.size w w' := by
  go_enter Tryz.func58, Tryz.ntmps58
  go_wp2_with (go_at_call 77; refine (both_any _ _ _ _ _).mono ?_; rintro e w0 ⟨rfl, g0⟩; obtain ⟨hc0, hf0⟩ := bcell g0)
  refine bodyPost_ret (v := .agg #[.bool false, .int .i64 0]) (by simp [results, Tryz.results58, go_sem, hc0]) rfl ⟨rfl, ?_⟩
  exact gset (gset (gtrans (galloc (galloc (galloc (Below.refl _ _) _) _) _) g0) (by simp; omega) _) (by simp; omega) _

set_option maxHeartbeats 1000000 in
theorem div_yes (a b : Int) (w : World) (ha : fitsB a = true) (h0 : (b == 0) = false) (h1 : (b == -1) = false) :
    Calls Tryz.prog 58 #[.agg #[.bool true, .int .i64 a], .agg #[.bool true, .int .i64 b]] w fun e w' => e = .returned (.agg #[.bool true, .int .i64 (a.tdiv b)]) ∧ Below w.heap.size w w' := by
  have hw := wrap_fits _ (tdiv_fits a b ha (by simpa using h1))
  have h0' : ¬ b = 0 := by simpa using h0
  go_enter Tryz.func58, Tryz.ntmps58
  go_wp2_with (first | (go_at_call 77; refine (both_any _ _ _ _ _).mono ?_; rintro e w0 ⟨rfl, g0⟩; obtain ⟨hc0, hf0⟩ := bcell g0) | (go_at_call 53; refine (known_any _ _).mono ?_; rintro e w1 ⟨rfl, g1⟩; replace g0 := gtrans g0 g1; obtain ⟨hc1, hf1⟩ := bcell g0))
  refine bodyPost_ret (v := .agg #[.bool true, .int .i64 (a.tdiv b)]) (by simp [results, Tryz.results58, go_sem, hc1]) rfl ⟨rfl, ?_⟩
  exact gset (gset (gtrans (galloc (galloc (galloc (Below.refl _ _) _) _) _) g0) (by simp; omega) _) (by simp; omega) _

set_option maxHeartbeats 1000000 in
theorem div_neg (a : Int) (w : World) (ha : fitsB a = true) :
    Calls Tryz.prog 58 #[.agg #[.bool true, .int .i64 a], .agg #[.bool true, .int .i64 (-1)]] w fun e w' => e = .returned (.agg #[.bool (opK true true (0 - a)), .int .i64 (opN true true (0 - a))]) ∧ Below w.heap.size w w' := by
  go_enter Tryz.func58, Tryz.ntmps58
  go_wp2_with (first | (go_at_call 77; refine (both_any _ _ _ _ _).mono ?_; rintro e w0 ⟨rfl, g0⟩; obtain ⟨hc0, hf0⟩ := bcell g0) | (go_at_call 31; refine (neg_any _ _ _ ha).mono ?_; rintro e w1 ⟨rfl, g1⟩; replace g0 := gtrans g0 g1; obtain ⟨hc1, hf1⟩ := bcell g0))
  refine bodyPost_ret (v := .agg #[.bool (opK true true (0 - a)), .int .i64 (opN true true (0 - a))]) (by simp [results, Tryz.results58, go_sem, hc1]) rfl ⟨rfl, ?_⟩
  exact gset (gset (gtrans (galloc (galloc (galloc (Below.refl _ _) _) _) _) g0) (by simp; omega) _) (by simp; omega) _

theorem div_any (ka kb : Bool) (a b : Int) (w : World) (ha : fitsB a = true) :
    Calls Tryz.prog 58 #[.agg #[.bool ka, .int .i64 a], .agg #[.bool kb, .int .i64 b]] w fun e w' => e = .returned (.agg #[.bool (opK ka (kb && !(b == 0)) (a.tdiv b)), .int .i64 (opN ka (kb && !(b == 0)) (a.tdiv b))]) ∧ Below w.heap.size w w' := by
  cases h : (ka && kb)
  · have h' : (ka && (kb && !(b == 0))) = false := by cases ka <;> cases kb <;> simp_all
    rw [opK_no _ _ _ h', opN_no _ _ _ h']; exact div_no ka kb a b w h
  · simp only [Bool.and_eq_true] at h
    obtain ⟨rfl, rfl⟩ := h
    cases h0 : (b == 0)
    · cases h1 : (b == -1)
      · have hf := tdiv_fits a b ha (by simpa using h1)
        simp only [Bool.not_false, Bool.and_true, opK_tt, opN_tt, fitN_yes _ hf, hf]
        exact div_yes a b w ha h0 h1
      · have : b = -1 := by simpa using h1
        subst this
        have e : a.tdiv (-1) = 0 - a := by rw [Int.tdiv_neg, Int.tdiv_one]; omega
        rw [e]; exact div_neg a w ha
    · have : b = 0 := by simpa using h0
      subst this
      simp only [Bool.not_true, Bool.and_false, opK_f2, opN_f2]
      exact div_zero a w

set_option maxHeartbeats 400000 in
theorem mod_no (ka kb : Bool) (a b : Int) (w : World) (h : (ka && kb) = false) :
    Calls Tryz.prog 59 #[.agg #[.bool ka, .int .i64 a], .agg #[.bool kb, .int .i64 b]] w fun e w' => e = .returned (.agg #[.bool false, .int .i64 0]) ∧ Below w.heap.size w w' := by
  go_enter Tryz.func59, Tryz.ntmps59
  go_wp2_with (go_at_call 77; refine (both_any _ _ _ _ _).mono ?_; rintro e w0 ⟨rfl, g0⟩; obtain ⟨hc0, hf0⟩ := bcell g0)
  refine bodyPost_ret (v := .agg #[.bool false, .int .i64 0]) (by simp [results, Tryz.results59, go_sem, hc0]) rfl ⟨rfl, ?_⟩
  exact gset (gset (gtrans (galloc (galloc (galloc (Below.refl _ _) _) _) _) g0) (by simp; omega) _) (by simp; omega) _

set_option maxHeartbeats 400000 in
theorem mod_zero (a : Int) (w : World) :
    Calls Tryz.prog 59 #[.agg #[.bool true, .int .i64 a], .agg #[.bool true, .int .i64 0]] w fun e w' => e = .returned (.agg #[.bool false, .int .i64 0]) ∧ Below w.heap.size w w' := by
  go_enter Tryz.func59, Tryz.ntmps59
  go_wp2_with (go_at_call 77; refine (both_any _ _ _ _ _).mono ?_; rintro e w0 ⟨rfl, g0⟩; obtain ⟨hc0, hf0⟩ := bcell g0)
  refine bodyPost_ret (v := .agg #[.bool false, .int .i64 0]) (by simp [results, Tryz.results59, go_sem, hc0]) rfl ⟨rfl, ?_⟩
  exact gset (gset (gtrans (galloc (galloc (galloc (Below.refl _ _) _) _) _) g0) (by simp; omega) _) (by simp; omega) _

set_option maxHeartbeats 1000000 in
theorem mod_yes (a b : Int) (w : World) (ha : fitsB a = true) (h0 : (b == 0) = false) :
    Calls Tryz.prog 59 #[.agg #[.bool true, .int .i64 a], .agg #[.bool true, .int .i64 b]] w fun e w' => e = .returned (.agg #[.bool true, .int .i64 (a.tmod b)]) ∧ Below w.heap.size w w' := by
  have hw := wrap_fits _ (tmod_fits a b ha)
  have h0' : ¬ b = 0 := by simpa using h0
  go_enter Tryz.func59, Tryz.ntmps59
  go_wp2_with (first | (go_at_call 77; refine (both_any _ _ _ _ _).mono ?_; rintro e w0 ⟨rfl, g0⟩; obtain ⟨hc0, hf0⟩ := bcell g0) | (go_at_call 53; refine (known_any _ _).mono ?_; rintro e w1 ⟨rfl, g1⟩; replace g0 := gtrans g0 g1; obtain ⟨hc1, hf1⟩ := bcell g0))
  refine bodyPost_ret (v := .agg #[.bool true, .int .i64 (a.tmod b)]) (by simp [results, Tryz.results59, go_sem, hc1]) rfl ⟨rfl, ?_⟩
  exact gset (gset (gtrans (galloc (galloc (galloc (Below.refl _ _) _) _) _) g0) (by simp; omega) _) (by simp; omega) _

theorem mod_any (ka kb : Bool) (a b : Int) (w : World) (ha : fitsB a = true) :
    Calls Tryz.prog 59 #[.agg #[.bool ka, .int .i64 a], .agg #[.bool kb, .int .i64 b]] w fun e w' => e = .returned (.agg #[.bool (opK ka (kb && !(b == 0)) (a.tmod b)), .int .i64 (opN ka (kb && !(b == 0)) (a.tmod b))]) ∧ Below w.heap.size w w' := by
  cases h : (ka && kb)
  · have h' : (ka && (kb && !(b == 0))) = false := by cases ka <;> cases kb <;> simp_all
    rw [opK_no _ _ _ h', opN_no _ _ _ h']; exact mod_no ka kb a b w h
  · simp only [Bool.and_eq_true] at h
    obtain ⟨rfl, rfl⟩ := h
    cases h0 : (b == 0)
    · have hf := tmod_fits a b ha
      simp only [Bool.not_false, Bool.and_true, opK_tt, opN_tt, fitN_yes _ hf, hf]
      exact mod_yes a b w ha h0
    · have : b = 0 := by simpa using h0
      subst this
      simp only [Bool.not_true, Bool.and_false, opK_f2, opN_f2]
      exact mod_zero a w

end Go.Proofs.YtnolbpekdikamaaGreatDoor
namespace Go.Proofs.YtnolbpekdikamaaGreatDoor
open Go.RowKit
set_option linter.unusedVariables false
theorem wrapEq (x : Int) : IntKind.i64.wrap x = wrap64 x := by rw [IntKind.wrap_i64]; unfold wrap64; rfl
theorem mul_back (a b : Int) (ha : fitsB a = true) : fitsB (b * a.tdiv b) = true ∧ a - b * a.tdiv b = a.tmod b := by
  have h1 := Int.tmod_add_mul_tdiv a b
  have h2 := tmod_fits a b ha
  have h6 : a < 0 → a.tmod b ≤ 0 := fun h => by
    have := Int.tmod_nonneg (a := -a) b (by omega)
    rw [Int.neg_tmod] at this; omega
  have h5 : 0 ≤ a → 0 ≤ a.tmod b := fun h => Int.tmod_nonneg b h
  have h3 := Int.natAbs_tmod a b
  have h4 : a.natAbs % b.natAbs ≤ a.natAbs := Nat.mod_le _ _
  rw [← h3] at h4
  rw [fits_iff] at *
  generalize b * a.tdiv b = m at *
  omega

end Go.Proofs.YtnolbpekdikamaaGreatDoor
