/- What variables are called does not matter: pure. And what goes with it: 4 texts in one. -/
import Derived.Test.YtnolbpekdikamaaGreatDoorJb18
import Derived.Lib.ItoaMem
import Derived.Test.YtnolbpekdikamaaGreatDoorRows
import Derived.Shelf.Strings.OnBuilder
import Derived.Shelf.LaysM
import Derived.OrdersHeld
import Derived.Deep.MidRow
import Derived.Shelf.Strconv.Itoa3
import Derived.Lib.AppendIntMem
import Derived.Lib.ItoaLen
namespace Go.Proofs.YtnolbpekdikamaaGreatDoor
open Go.RowKit Go.BigFrame Go.Proofs.YtnolbpekdikamaaGreatDoor.Ev
set_option linter.unusedVariables false
set_option linter.unusedSimpArgs false

theorem itemF_of {l : List It} {s : ByteArray} : ∀ {k j : Nat}, j < k → s = (l.getD j noIt).v → (∀ i : Nat, i < j → s ≠ (l.getD i noIt).v) → itemF l k s = some (j : Int)
  | 0, j, h, _, _ => absurd h (Nat.not_lt_zero _)
  | k + 1, j, h, e, hn => by
    unfold itemF
    by_cases hk : j < k
    · rw [itemF_of hk e hn]
    · obtain rfl : j = k := by omega
      cases hF : itemF l j s with
      | some i =>
        obtain ⟨h0, h1, h2, _⟩ := itemF_some hF
        exact absurd h2 (hn i.toNat (by omega))
      | none => exact if_pos e
theorem itemF_le {l : List It} : ∀ {k j : Nat}, j < k → ∃ i : Int, itemF l k (l.getD j noIt).v = some i ∧ i ≤ (j : Int)
  | 0, j, h => absurd h (Nat.not_lt_zero _)
  | k + 1, j, h => by
    unfold itemF
    by_cases hk : j < k
    · obtain ⟨i, h1, h2⟩ := itemF_le (l := l) hk
      rw [h1]
      exact ⟨i, rfl, h2⟩
    · obtain rfl : j = k := by omega
      cases hF : itemF l j (l.getD j noIt).v with
      | some i =>
        obtain ⟨h0, h1, _⟩ := itemF_some hF
        exact ⟨i, rfl, by omega⟩
      | none => exact ⟨j, if_pos rfl, Int.le_refl _⟩
/-- The new name of the item with the number i. -/
def renV (i : Int) : ByteArray := ⟨#[118]⟩ ++ ⟨(Lib.itoa i).toArray⟩
def unV (s : ByteArray) : Nat := s.data.toList.foldl (fun n b => if b = 118 then n else n * 10 + (b.toNat - 48)) 0
theorem renV_all : ((List.range 1000).all fun i => nameB (renV (i : Int)) && (unV (renV (i : Int)) == i)) = true := by kernel_rfl
theorem renV_name {i : Int} (h0 : 0 ≤ i) (h1 : i < 1000) : nameB (renV i) = true ∧ unV (renV i) = i.toNat := by
  have := List.all_eq_true.1 renV_all i.toNat (List.mem_range.2 (by omega))
  rw [Bool.and_eq_true, beq_iff_eq, Int.toNat_of_nonneg h0] at this
  exact this
theorem renV_inj {i j : Int} (h0 : 0 ≤ i) (h1 : i < 1000) (g0 : 0 ≤ j) (g1 : j < 1000) (e : renV i = renV j) : i = j := by
  have h := (renV_name h0 h1).2
  have g := (renV_name g0 g1).2
  rw [e, g] at h
  omega
def renI (l : List It) (i : It) : It := ⟨false, [], renV (itmI l i.v), 0, 0⟩
def renIs (l : List It) : List It := l.map (renI l)
def renN (l : List It) (n : Nd) : Nd := if n.v = eS then n else { n with v := renV (itmI l n.v) }
theorem renIs_len (l : List It) : (renIs l).length = l.length := by unfold renIs; simp
theorem renIs_at (l : List It) (j : Nat) (h : j < l.length) : (renIs l).getD j noIt = renI l (l.getD j noIt) := by
  unfold renIs
  rw [List.getD_eq_getElem?_getD, List.getElem?_map, List.getD_eq_getElem?_getD, List.getElem?_eq_getElem h]
  rfl
theorem ren_item {l : List It} (hl : l.length ≤ 1000) {s : ByteArray} {i : Int} (h : itemF l l.length s = some i) : itemF (renIs l) (renIs l).length (renV i) = some i := by
  obtain ⟨h0, h1, h2, h3⟩ := itemF_some h
  have hin : (i.toNat : Int) = i := by omega
  rw [renIs_len]
  have e1 : itmI l (l.getD i.toNat noIt).v = i := by rw [← h2]; unfold itmI; rw [h]; rfl
  have := itemF_of (l := renIs l) (s := renV i) (k := l.length) (j := i.toNat) (by omega) (by rw [renIs_at l _ (by omega)]; show _ = renV _; rw [e1]) (fun j hj e => by
    rw [renIs_at l j (by omega)] at e
    obtain ⟨z, hz, hzj⟩ := itemF_le (l := l) (k := l.length) (j := j) (by omega)
    have hz0 := (itemF_some hz).1
    have e2 : itmI l (l.getD j noIt).v = z := by unfold itmI; rw [hz]; rfl
    have e3 : renV i = renV z := by rw [e]; show renV _ = _; rw [e2]
    have := renV_inj h0 (by omega) hz0 (by omega) e3
    omega)
  rw [this, hin]
theorem renN_op (l : List It) (n : Nd) : (renN l n).op = n.op ∧ (renN l n).n = n.n ∧ (renN l n).x = n.x ∧ (renN l n).l = n.l ∧ (renN l n).r = n.r := by
  unfold renN
  split <;> exact ⟨rfl, rfl, rfl, rfl, rfl⟩
theorem renN_no (l : List It) : renN l noNd = noNd := by
  unfold renN
  rw [if_pos (by decide)]
theorem ren_getD (l : List It) (ns : List Nd) (k : Nat) : (ns.map (renN l)).getD k noNd = renN l (ns.getD k noNd) := by
  rw [List.getD_eq_getElem?_getD, List.getElem?_map, List.getD_eq_getElem?_getD]
  cases ns[k]? with
  | none => exact (renN_no l).symm
  | some n => rfl
theorem name_ne {s : ByteArray} (h : nameB s = true) : s ≠ eS := fun e => by
  subst e
  exact absurd h (by decide)
section
variable {l : List It} (hl : l.length ≤ 1000) {ns : List Nd} (hr : runB (itemF l l.length) ns = true)
include hl hr
theorem ren_men {i : Nat} (hi : i < ns.length) (h4 : 4 ≤ (ns.getD i noNd).op) (h11 : (ns.getD i noNd).op ≤ 11) : ∃ z, itemF l l.length (ns.getD i noNd).v = some z ∧ 0 ≤ z ∧ z < 1000 ∧ nameB (ns.getD i noNd).v = true ∧ (renN l (ns.getD i noNd)).v = renV z ∧ itemF (renIs l) (renIs l).length (renN l (ns.getD i noNd)).v = some z := by
  have ht : treeB ns = true := by unfold runB at hr; rw [Bool.and_eq_true] at hr; exact hr.1
  have hN := (by unfold runB at hr; rw [Bool.and_eq_true, List.all_eq_true] at hr; exact hr.2 (ns.getD i noNd) (by rw [List.getD_eq_getElem?_getD, List.getElem?_eq_getElem hi]; exact List.getElem_mem hi) : runN (itemF l l.length) ns (ns.getD i noNd) = true)
  unfold runN at hN
  rw [Bool.and_eq_true, show kMent (ns.getD i noNd).op = true from decide_eq_true ⟨h4, h11⟩, Bool.not_true, Bool.false_or] at hN
  obtain ⟨z, hz⟩ := Option.isSome_iff_exists.1 hN.2
  obtain ⟨h0, h1, _⟩ := itemF_some hz
  obtain ⟨bs, hb, _⟩ := tree_begs ht
  have w := ws_of hb i hi
  have hf := (leafN_iff _).1 (w.leaf (by omega))
  have hv : nameB (ns.getD i noNd).v = true := by
    rcases hf.2.2 with h | h | h | h
    · omega
    · omega
    · exact h.2.2.1
    · exact h.2.2.1
  have e : (renN l (ns.getD i noNd)).v = renV z := by
    unfold renN
    rw [if_neg (name_ne hv)]
    show renV (itmI l _) = _
    unfold itmI
    rw [hz]
    rfl
  exact ⟨z, hz, h0, by omega, hv, e, by rw [e]; exact ren_item hl hz⟩
/-- A node that is renamed begins where it began. -/
theorem ren_node {i : Nat} (hi : i < ns.length) (bs : List Int) {b : Int} (h : nodeO (ns.getD i noNd) bs = some b) : nodeO (renN l (ns.getD i noNd)) bs = some b := by
  have ht : treeB ns = true := by unfold runB at hr; rw [Bool.and_eq_true] at hr; exact hr.1
  obtain ⟨bs0, hb, _⟩ := tree_begs ht
  have w := (ws_of hb i hi).leaf
  have hmen := ren_men hl hr hi
  generalize ns.getD i noNd = n at *
  by_cases hv : n.v = eS
  · have : renN l n = n := by unfold renN; rw [if_pos hv]
    rw [this]
    exact h
  · have hbare : bareN n = false := by
      cases hb : bareN n with
      | false => rfl
      | true => exact absurd ((bareN_iff n).1 hb).2.1 hv
    obtain ⟨r1, r2, r3, r4, r5⟩ := renN_op l n
    by_cases hop : n.op ≤ 11
    · have hlf := w hop
      have hf := (leafN_iff n).1 hlf
      have hm : 4 ≤ n.op := by
        rcases hf.2.2 with g | g | g | g
        · exact absurd g.2.2.1 hv
        · exact absurd g.2.2.1 hv
        · omega
        · omega
      obtain ⟨z, hz, z0, z1, hn, e1, e2⟩ := hmen hm hop
      have hl' : leafN (renN l n) = true := by
        rw [leafN_iff, r1, r2, r3, r4, r5, e1]
        refine ⟨hf.1, hf.2.1, ?_⟩
        have hnv := (renV_name z0 z1).1
        rcases hf.2.2 with g | g | g | g
        · omega
        · omega
        · exact .inr (.inr (.inl ⟨g.1, g.2.1, hnv, g.2.2.2⟩))
        · exact .inr (.inr (.inr ⟨g.1, g.2.1, hnv, g.2.2.2⟩))
      unfold nodeO at h ⊢
      rw [if_pos hlf] at h
      rw [if_pos hl']
      exact h
    · exfalso
      have hlf : leafN n = false := by
        cases hb : leafN n with
        | false => rfl
        | true =>
          rcases ((leafN_iff n).1 hb).2.2 with g | g | g | g <;> omega
      unfold nodeO at h
      rw [if_neg (by rw [hlf]; decide)] at h
      split at h
      · rw [if_neg (fun g => by rw [hbare] at g; cases g.1)] at h
        cases h
      split at h
      · rw [if_neg (fun g => by rw [hbare] at g; cases g.1)] at h
        cases h
      · cases h
theorem ren_begs : ∀ (k : Nat) (t : List Nd) (bs : List Int) {r : List Int}, ns.drop k = t → begsO t bs = some r → begsO (t.map (renN l)) bs = some r
  | _, [], bs, r, _, h => h
  | k, n :: t, bs, r, ht, h => by
    have hk : k < ns.length := by
      have := congrArg List.length ht
      simp at this
      omega
    have hn : ns.getD k noNd = n := by
      rw [List.getD_eq_getElem?_getD]
      have := congrArg (fun l : List Nd => l[0]?) ht
      simp only [List.getElem?_drop, Nat.add_zero, List.getElem?_cons_zero] at this
      rw [this]
      rfl
    have ht2 : ns.drop (k + 1) = t := by
      have := congrArg List.tail ht
      rw [List.tail_drop] at this
      exact this
    unfold begsO at h
    rw [List.map_cons]
    unfold begsO
    cases hN : nodeO n bs with
    | none => rw [hN] at h; cases h
    | some b =>
      rw [hN] at h
      have := ren_node hl hr hk bs (b := b) (by rw [hn]; exact hN)
      rw [hn] at this
      rw [this]
      exact ren_begs (k + 1) t (bs ++ [b]) ht2 h
theorem ren_tree : treeB (ns.map (renN l)) = true := by
  have ht : treeB ns = true := by unfold runB at hr; rw [Bool.and_eq_true] at hr; exact hr.1
  obtain ⟨bs0, hb, _⟩ := tree_begs ht
  unfold treeB at ht ⊢
  rw [hb] at ht
  rw [ren_begs hl hr 0 ns [] rfl hb, List.length_map]
  exact ht
theorem ren_run : runB (itemF (renIs l) (renIs l).length) (ns.map (renN l)) = true := by
  have hr' := hr
  unfold runB at hr ⊢
  rw [Bool.and_eq_true, List.all_eq_true] at hr
  rw [ren_tree hl hr', Bool.true_and, List.all_map, List.all_eq_true]
  intro n hn
  obtain ⟨i, hi, rfl⟩ := List.getElem_of_mem hn
  have h1 := hr.2 _ hn
  have e : ns[i] = ns.getD i noNd := by rw [List.getD_eq_getElem?_getD, List.getElem?_eq_getElem hi]; rfl
  rw [e] at h1 ⊢
  have hmen := ren_men hl hr' hi
  generalize ns.getD i noNd = n at *
  show runN _ _ (renN l n) = true
  obtain ⟨r1, r2, r3, r4, r5⟩ := renN_op l n
  unfold runN at h1 ⊢
  rw [Bool.and_eq_true] at h1 ⊢
  have kk : ∀ op k : Int, kKid (ns.map (renN l)) op k = kKid ns op k := fun op k => by
    unfold kKid
    rw [ren_getD, (renN_op l _).1]
  refine ⟨?_, ?_⟩
  · have := h1.1
    unfold kFit at this ⊢
    rw [kk, kk, r1, r4, r5]
    exact this
  · rw [r1]
    cases hm : kMent n.op with
    | false => rfl
    | true =>
      have h4 := of_decide_eq_true (show decide (4 ≤ n.op ∧ n.op ≤ 11) = true from hm)
      obtain ⟨z, _, _, _, _, _, e2⟩ := hmen h4.1 h4.2
      rw [e2]
      rfl
omit hl hr in
theorem ren_jmp (k j : Nat) : jmpF (ns.map (renN l)) k j = jmpF ns k j := by
  induction k with
  | zero => rfl
  | succ k ih =>
    unfold jmpF
    obtain ⟨r1, _, _, r4, _⟩ := renN_op l (ns.getD k noNd)
    rw [ren_getD, r1, r4, ih]
theorem ren_nodS (L : List Ty) (s : Cst) {i : Nat} (hi : i < ns.length) : nodS L (itemF (renIs l) (renIs l).length) s (renN l (ns.getD i noNd)) = nodS L (itemF l l.length) s (ns.getD i noNd) := by
  have hmen := ren_men hl hr hi
  generalize ns.getD i noNd = n at *
  obtain ⟨r1, r2, r3, r4, r5⟩ := renN_op l n
  have hI : nodI (itemF (renIs l) (renIs l).length) s (renN l n) = nodI (itemF l l.length) s n := by
    unfold nodI hasCol kLit
    rw [r1, r2, r3]
    cases hm : kMent n.op with
    | false => rfl
    | true =>
      have h4 := of_decide_eq_true (show decide (4 ≤ n.op ∧ n.op ≤ 11) = true from hm)
      obtain ⟨z, hz, _, _, _, _, e2⟩ := hmen h4.1 h4.2
      rw [e2, hz]
  have h1 : nod1 L s (renN l n) = nod1 L s n := by
    unfold nod1 hasCol
    rw [r1, r3]
  have h2 : nod2 L (itemF (renIs l) (renIs l).length) s (renN l n) = nod2 L (itemF l l.length) s n := by
    unfold nod2
    rw [h1, hI]
  unfold nodS
  rw [r1, h2]
theorem ren_treK (L : List Ty) : ∀ k, k ≤ ns.length → treK L (itemF (renIs l) (renIs l).length) (ns.map (renN l)) k = treK L (itemF l l.length) ns k
  | 0, _ => rfl
  | k + 1, h => by
    unfold treK
    rw [ren_treK L k (by omega), ren_getD, List.length_map, ren_jmp, ren_nodS hl hr L _ (by omega)]
theorem ren_nodeW (L : List Ty) (E : Envr) (done : List V2) {i : Nat} (hi : i < ns.length) : nodeW L (itemF (renIs l) (renIs l).length) E done (renN l (ns.getD i noNd)) = nodeW L (itemF l l.length) E done (ns.getD i noNd) := by
  have hmen := ren_men hl hr hi
  generalize ns.getD i noNd = n at *
  obtain ⟨r1, r2, r3, r4, r5⟩ := renN_op l n
  unfold nodeW kLit
  rw [r1, r2, r3, r4, r5]
  split
  · rfl
  split
  · obtain ⟨z, hz, _, _, _, _, e2⟩ := hmen (by omega) (by omega)
    rw [e2, hz]
  split
  · obtain ⟨z, hz, _, _, _, _, e2⟩ := hmen (by omega) (by omega)
    rw [e2, hz]
  · rfl
theorem ren_valK (L : List Ty) (E : Envr) : ∀ k, k ≤ ns.length → valK L (itemF (renIs l) (renIs l).length) E (ns.map (renN l)) k = valK L (itemF l l.length) E ns k
  | 0, _ => rfl
  | k + 1, h => by
    unfold valK
    rw [ren_valK L E k (by omega), ren_getD, ren_nodeW hl hr L E _ (by omega)]
end
/-- The query with other variables. -/
def renQ (q : Qy) : Qy := ⟨renIs q.items, 0, 0, [], 0, eS, []⟩
theorem ren_cmp (L : List Ty) (q : Qy) {ns : List Nd} (hl : q.items.length ≤ 1000) (hr : runB (itemF q.items q.items.length) ns = true) : cmpG L (renQ q) (ns.map (renN q.items)) = cmpG L q ns := by
  unfold cmpG cmpS
  rw [show runB (itemF (renQ q).items (renQ q).items.length) (ns.map (renN q.items)) = true from ren_run hl hr, hr, if_pos rfl, if_pos rfl, List.length_map, show treK L (itemF (renQ q).items (renQ q).items.length) (ns.map (renN q.items)) ns.length = _ from ren_treK hl hr L ns.length (Nat.le_refl _)]
theorem ren_eval (L : List Ty) (q : Qy) (E : Envr) {ns : List Nd} (hl : q.items.length ≤ 1000) (hr : runB (itemF q.items q.items.length) ns = true) : evalV L (renQ q) E (ns.map (renN q.items)) = evalV L q E ns := by
  have hpos : 0 < ns.length := by
    obtain ⟨_, _, h⟩ := tree_begs (by unfold runB at hr; rw [Bool.and_eq_true] at hr; exact hr.1)
    exact h
  unfold evalV
  rw [show runB (itemF (renQ q).items (renQ q).items.length) (ns.map (renN q.items)) = true from ren_run hl hr, hr, if_pos rfl, if_pos rfl, List.length_map]
  unfold valA
  rw [show valK L (itemF (renQ q).items (renQ q).items.length) E (ns.map (renN q.items)) (ns.length - 1) = _ from ren_valK hl hr L E _ (by omega), ren_getD]
  exact ren_nodeW hl hr L E _ (by omega)

end Go.Proofs.YtnolbpekdikamaaGreatDoor
namespace Go.Proofs.YtnolbpekdikamaaGreatDoor.It
open Go.Shelf
set_option linter.unusedVariables false

def rnF : Nat → Nat
  | 0 => 0
  | 1 => 1
  | 2 => 2
  | 125 => 88
  | 128 => 113
  | 129 => 114
  | 164 => 117
  | 171 => 39
  | 189 => 66
  | 197 => 128
  | 215 => 127
  | 216 => 110
  | 239 => 129
  | 243 => 65
  | 246 => 86
  | 257 => 87
  | 260 => 133
  | 264 => 95
  | 274 => 134
  | 275 => 135
  | 283 => 100
  | 284 => 101
  | 285 => 102
  | 286 => 103
  | 294 => 104
  | 295 => 105
  | 296 => 106
  | 297 => 107
  | 298 => 108
  | 299 => 109
  | 300 => 111
  | 301 => 112
  | 317 => 118
  | 318 => 119
  | 319 => 120
  | 320 => 121
  | 328 => 122
  | 329 => 123
  | 330 => 124
  | 331 => 125
  | 332 => 126
  | 337 => 130
  | 338 => 131
  | 343 => 132
  | 347 => 136
  | 348 => 137
  | 349 => 138
  | 350 => 139
  | 351 => 140
  | 352 => 141
  | 353 => 142
  | 354 => 143
  | 355 => 144
  | 356 => 145
  | 357 => 146
  | 358 => 147
  | 359 => 148
  | 360 => 149
  | 361 => 150
  | 366 => 153
  | 367 => 170
  | _ => 0
def rnT : Nat → Nat
  | 0 => 0
  | 1 => 1
  | 2 => 2
  | 3 => 3
  | 4 => 4
  | 5 => 5
  | 6 => 6
  | 7 => 7
  | 8 => 8
  | 9 => 9
  | 10 => 10
  | 11 => 11
  | 12 => 12
  | 13 => 13
  | 14 => 14
  | 15 => 15
  | 16 => 16
  | 17 => 17
  | 18 => 18
  | 19 => 19
  | 20 => 20
  | 21 => 21
  | 22 => 174
  | 28 => 39
  | 29 => 44
  | 31 => 65
  | 35 => 126
  | 37 => 159
  | 40 => 155
  | 46 => 148
  | 47 => 147
  | 49 => 191
  | 51 => 171
  | 52 => 170
  | 53 => 73
  | 54 => 157
  | 80 => 210
  | 81 => 216
  | 83 => 103
  | 84 => 145
  | 103 => 130
  | 104 => 144
  | 105 => 185
  | 106 => 186
  | 107 => 187
  | 111 => 178
  | 112 => 167
  | 114 => 93
  | 119 => 202
  | 127 => 220
  | 131 => 105
  | 134 => 146
  | 137 => 203
  | 138 => 204
  | 139 => 205
  | 148 => 152
  | 149 => 154
  | 156 => 192
  | 157 => 193
  | 158 => 194
  | 159 => 195
  | 160 => 196
  | 161 => 197
  | 162 => 198
  | 163 => 199
  | 164 => 226
  | 171 => 156
  | 172 => 158
  | 173 => 160
  | 174 => 161
  | 181 => 162
  | 182 => 163
  | 183 => 164
  | 184 => 165
  | 185 => 166
  | 186 => 168
  | 187 => 169
  | 205 => 206
  | 206 => 207
  | 207 => 208
  | 208 => 209
  | 211 => 175
  | 212 => 176
  | 213 => 177
  | 218 => 179
  | 219 => 180
  | 220 => 181
  | 221 => 182
  | 222 => 183
  | 223 => 184
  | 228 => 188
  | 229 => 189
  | 230 => 190
  | 232 => 200
  | 233 => 201
  | 238 => 211
  | 239 => 212
  | 240 => 213
  | 241 => 214
  | 242 => 215
  | 243 => 217
  | 244 => 218
  | 245 => 219
  | 246 => 221
  | 247 => 222
  | 248 => 223
  | 249 => 224
  | _ => 0
def rnG : Nat → Nat
  | 3 => 11
  | 4 => 12
  | 11 => 6
  | 12 => 7
  | 13 => 8
  | 17 => 5
  | 18 => 9
  | 19 => 10
  | _ => 0
def rn : Ren := ⟨rnF, rnT, rnG⟩
set_option maxRecDepth 100000 in
theorem lays_n171 : Lays.n171 Tryz.prog rn where
  mixed := by kernel_rfl
  f129 := Tryz.func114.trans (congrArg some (by kernel_rfl))
  f171 := Tryz.func39.trans (congrArg some (by kernel_rfl))
  f243 := Tryz.func65.trans (congrArg some (by kernel_rfl))
  f246 := Tryz.func86.trans (congrArg some (by kernel_rfl))
  f283 := Tryz.func100.trans (congrArg some (by kernel_rfl))
  f284 := Tryz.func101.trans (congrArg some (by kernel_rfl))
  f285 := Tryz.func102.trans (congrArg some (by kernel_rfl))
  f286 := Tryz.func103.trans (congrArg some (by kernel_rfl))
  f317 := Tryz.func118.trans (congrArg some (by kernel_rfl))
  f318 := Tryz.func119.trans (congrArg some (by kernel_rfl))
  f319 := Tryz.func120.trans (congrArg some (by kernel_rfl))
  f320 := Tryz.func121.trans (congrArg some (by kernel_rfl))
  f337 := Tryz.func130.trans (congrArg some (by kernel_rfl))
  f338 := Tryz.func131.trans (congrArg some (by kernel_rfl))
  t0 := by kernel_rfl
  a0 := fun w => by kernel_rfl
  z0 := fun w => by kernel_rfl
  v0 := fun w => by kernel_rfl
  t2 := by kernel_rfl
  a2 := fun w => by kernel_rfl
  z2 := fun w => by kernel_rfl
  v2 := fun w => by kernel_rfl
  t3 := by kernel_rfl
  a3 := fun w => by kernel_rfl
  z3 := fun w => by kernel_rfl
  v3 := fun w => by kernel_rfl
  t4 := by kernel_rfl
  a4 := fun w => by kernel_rfl
  z4 := fun w => by kernel_rfl
  v4 := fun w => by kernel_rfl
  t5 := by kernel_rfl
  a5 := fun w => by kernel_rfl
  z5 := fun w => by kernel_rfl
  v5 := fun w => by kernel_rfl
  t9 := by kernel_rfl
  a9 := fun w => by kernel_rfl
  z9 := fun w => by kernel_rfl
  v9 := fun w => by kernel_rfl
  t20 := by kernel_rfl
  a20 := fun w => by kernel_rfl
  z20 := fun w => by kernel_rfl
  v20 := fun w => by kernel_rfl
  t37 := by kernel_rfl
  a37 := fun w => by kernel_rfl
  z37 := fun w => by kernel_rfl
  v37 := fun w => by kernel_rfl
  t46 := by kernel_rfl
  a46 := fun w => by kernel_rfl
  z46 := fun w => by kernel_rfl
  v46 := fun w => by kernel_rfl
  t51 := by kernel_rfl
  a51 := fun w => by kernel_rfl
  z51 := fun w => by kernel_rfl
  v51 := fun w => by kernel_rfl
  t53 := by kernel_rfl
  a53 := fun w => by kernel_rfl
  z53 := fun w => by kernel_rfl
  v53 := fun w => by kernel_rfl
  t171 := by kernel_rfl
  a171 := fun w => by kernel_rfl
  z171 := fun w => by kernel_rfl
  v171 := fun w => by kernel_rfl
  t173 := by kernel_rfl
  a173 := fun w => by kernel_rfl
  z173 := fun w => by kernel_rfl
  v173 := fun w => by kernel_rfl
  t212 := by kernel_rfl
  a212 := fun w => by kernel_rfl
  z212 := fun w => by kernel_rfl
  v212 := fun w => by kernel_rfl
  t213 := by kernel_rfl
  a213 := fun w => by kernel_rfl
  z213 := fun w => by kernel_rfl
  t232 := by kernel_rfl
  a232 := fun w => by kernel_rfl
  z232 := fun w => by kernel_rfl
  v232 := fun w => by kernel_rfl
  t233 := by kernel_rfl
  a233 := fun w => by kernel_rfl
  z233 := fun w => by kernel_rfl
  v233 := fun w => by kernel_rfl
  g17 := by kernel_rfl
  g18 := by kernel_rfl
  g19 := by kernel_rfl
set_option maxRecDepth 100000 in
theorem laysM_n171 : LaysM.n171 Tryz.prog rn where
  ton171 := lays_n171
  i0 := by kernel_rfl
  i2 := by kernel_rfl
  i3 := by kernel_rfl
  i4 := by kernel_rfl
  i5 := by kernel_rfl
  i9 := by kernel_rfl
  i20 := by kernel_rfl
  i37 := by kernel_rfl
  i46 := by kernel_rfl
  i51 := by kernel_rfl
  i53 := by kernel_rfl
  i171 := by kernel_rfl
  i173 := by kernel_rfl
  i212 := by kernel_rfl
  i232 := by kernel_rfl
  i233 := by kernel_rfl
  m17 := by kernel_rfl
  m18 := by kernel_rfl
  m19 := by kernel_rfl

end Go.Proofs.YtnolbpekdikamaaGreatDoor.It
namespace Go.Proofs.YtnolbpekdikamaaGreatDoor
open Go.RowKit
set_option linter.unusedVariables false
set_option linter.unusedSimpArgs false

/-- Operations that yield a value and call nothing. -/
def plainH : Op → Bool
  | .lookup .. | .assign _ | .pick .. | .binOp .. | .unOp .. | .extract .. | .slice .. => true
  | o => plainB o
theorem plainH_value {P : Program} {o : Oper} {ρ : Operand → Value} {w w' : World} {r : Next} (h : plainH o.op = true) (hr : (execOp ρ o).run P w = .ok r w') : ∃ v, r = .value v := by
  have key : ∀ s : Sem Value, (do let x ← s; pure (Next.value x) : Sem Next).run P w = .ok r w' → ∃ v, r = .value v := fun s h => by
    rw [Sem.run_bind] at h
    cases hs : s.run P w with
    | ok x u => rw [hs] at h; simp at h; exact ⟨x, h.1.symm⟩
    | halt x u => rw [hs] at h; simp at h
  unfold plainH at h
  split at h
  · rename_i e
    unfold execOp at hr
    rw [e] at hr
    exact key _ hr
  · rename_i e
    unfold execOp at hr
    rw [e] at hr
    simp at hr
    exact ⟨_, hr.1.symm⟩
  · rename_i e
    unfold execOp at hr
    rw [e] at hr
    obtain ⟨x, u, _, h2⟩ := run_bind_ok hr
    simp at h2
    exact ⟨_, h2.1.symm⟩
  · rename_i e
    unfold execOp at hr
    rw [e] at hr
    exact key _ hr
  · rename_i e
    unfold execOp at hr
    rw [e] at hr
    exact key _ hr
  · rename_i e
    unfold execOp at hr
    rw [e] at hr
    exact key _ hr
  · rename_i e
    unfold execOp at hr
    rw [e] at hr
    first | exact key _ hr | (simp at hr; obtain ⟨x, u, _, h2⟩ := run_bind_ok hr; simp at h2; exact ⟨_, h2.1.symm⟩)
  · exact plain_value h hr
section
variable {P : Program} {ops : Array Oper} {md : Region.Mode} {S : World → Prop} {Q : Exit → Act → World → Prop}
theorem yieldsIf_ofH {o : Oper} {v : Value} {a : Act} (h : plainH o.op = true) (hy : YieldsIn P ops S o v a) : YieldsIf P ops S o v a := by
  rcases hy with ⟨hw, hv⟩ | ⟨hw, rfl⟩
  · refine .inl ⟨hw, fun w hS => ?_⟩
    have h1 := hv w hS
    unfold Oper.quietAt at h1
    cases hr : (execOp a.eval o).run P w with
    | ok r w' =>
      obtain ⟨u, rfl⟩ := plainH_value h hr
      rw [hr] at h1
      obtain ⟨rfl, rfl⟩ := h1
      rfl
    | halt x w' => rw [hr] at h1; exact h1.elim
  · exact .inr ⟨hw, rfl⟩
def lexH (md : Region.Mode) (ops : Array Oper) : List Nat → Array Bool → Bool
  | [], _ => true
  | k :: ks, listed => (Region.ready md ops listed).contains k && Region.free md ops listed k && (match ops[k]? with | some o => plainH o.op | none => false) && lexH md ops ks (listed.setIfInBounds k true)
def setAll : List Nat → Array Bool → Array Bool
  | [], listed => listed
  | k :: ks, listed => setAll ks (listed.setIfInBounds k true)
def pickL (ops : Array Oper) (ks : List Nat) : List Oper := ks.filterMap fun k => ops[k]?
/-- What only reads is taken first. -/
theorem anyH_lex (hsel : Region.noSelect ops = true) (hQ : ∀ c (a : Act) (d : Option Tmp) (v : Value) (w : World), Q (.panic c) (a.put d v) w → Q (.panic c) a w) {g : Nat} :
    ∀ (ks : List Nat) (l : List Oper) (listed : Array Bool) (a : Act) (w : World), S w → l.map some = ks.map (fun k => ops[k]?) → lexH md ops ks listed = true →
    wpQuiet P ops S (fun a' => wpAnyH P md ops Q S g (setAll ks listed) a' w) l a → wpAnyH P md ops Q S (ks.length + g) listed a w
  | [], l, listed, a, w, hS, hl, hB, h => by
    have : l = [] := by simpa using hl
    subst this
    rw [List.length_nil, Nat.zero_add]
    exact h
  | k :: ks, [], listed, a, w, hS, hl, hB, h => by simp at hl
  | k :: ks, o :: l, listed, a, w, hS, hl, hB, h => by
    simp only [List.map_cons, List.cons.injEq] at hl
    have h0 : ops[k]? = some o := hl.1.symm
    simp only [lexH, Bool.and_eq_true, h0] at hB
    obtain ⟨⟨⟨hr, hf⟩, hp⟩, hB'⟩ := hB
    have hst : qOp P ops S k (wpQuiet P ops S (fun a' => wpAnyH P md ops Q S g (setAll ks (listed.setIfInBounds k true)) a' w) l) a := by unfold qOp; simp only [h0]; exact h
    obtain ⟨v, hy, hK⟩ := yieldsIn_of_qOp h0 hst
    rw [show (k :: ks).length + g = (ks.length + g) + 1 by simp; omega]
    exact wpAnyH_take h0 hsel hf hr (fun c a w h => hQ c a _ _ w h) (yieldsIf_ofH hp hy) hS (anyH_lex hsel hQ ks l _ _ w hS hl.2 hB' hK)
theorem anyH_pick {g : Nat} (ks : List Nat) {listed : Array Bool} {a : Act} {w : World} (hsel : Region.noSelect ops = true) (hQ : ∀ c (a : Act) (d : Option Tmp) (v : Value) (w : World), Q (.panic c) (a.put d v) w → Q (.panic c) a w) (hS : S w) (hl : (pickL ops ks).map some = ks.map (fun k => ops[k]?)) (hB : lexH md ops ks listed = true)
    (h : wpQuiet P ops S (fun a' => wpAnyH P md ops Q S g (setAll ks listed) a' w) (pickL ops ks) a) : wpAnyH P md ops Q S (ks.length + g) listed a w := anyH_lex hsel hQ ks _ _ _ _ hS hl hB h
/-- One that makes memory or writes: its own step. -/
theorem wpOp_val {b : Nat} {ob : Oper} {a : Act} {w w' : World} {K : Act → World → Prop} {v : Value} (d : Option Tmp) (hob : ops[b]? = some ob) (hd : ob.dst = d) (hgd : ob.guard = none) (hrun : (execOp a.eval ob).run P w = .ok (.value v) w') (h : K (a.put d v) w') : wpOp P ops Q b K a w := by
  subst hd
  unfold wpOp
  have hwd : Region.wanted ob (yielded ops a.tmps) = true := by simp [Region.wanted, hgd]
  simp only [hob, hwd, if_true]
  refine .inl ?_
  unfold Oper.wp
  rw [hrun, Oper.upon_value]
  exact h
theorem wpOp_skip {b : Nat} {ob : Oper} {a : Act} {w w' : World} {K : Act → World → Prop} (d : Option Tmp) (hob : ops[b]? = some ob) (hd : ob.dst = d) (hgd : ob.guard = none) (hrun : (execOp a.eval ob).run P w = .ok .skip w') (h : K (a.put d undef) w') : wpOp P ops Q b K a w := by
  subst hd
  unfold wpOp
  have hwd : Region.wanted ob (yielded ops a.tmps) = true := by simp [Region.wanted, hgd]
  simp only [hob, hwd, if_true]
  refine .inl ?_
  unfold Oper.wp
  rw [hrun, Oper.upon_skip]
  exact h
theorem wpOp_callG {b : Nat} {ob : Oper} {a : Act} {w : World} {K : Act → World → Prop} (d : Option Tmp) (hob : ops[b]? = some ob) (hd : ob.dst = d) (hwd : Region.wanted ob (yielded ops a.tmps) = true) (f : FuncId) (args : Array Value) (hrun : (execOp a.eval ob).run P w = .ok (.enter f args) w) (R : Ending → World → Prop) (hc : Calls P f args w R) (h : ∀ e w', R e w' → ∃ v, e = .returned v ∧ K (a.put d v) w') : wpOp P ops Q b K a w := by
  subst hd
  unfold wpOp
  simp only [hob, hwd, if_true]
  refine .inl ?_
  unfold Oper.wp
  rw [hrun, Oper.upon_enter]
  refine hc.mono fun e w' hR => ?_
  obtain ⟨v, rfl, hh⟩ := h e w' hR
  exact hh
theorem wpOp_store {b : Nat} {ob : Oper} {a : Act} {w : World} {K : Act → World → Prop} (d : Option Tmp) (hob : ops[b]? = some ob) (hd : ob.dst = d) (hgd : ob.guard = none) (ty : TypeId) (x y : Operand) (ho : ob.op = .store ty x y) (g o : Nat) (cells : Array Value) (hx : a.eval x = .pointer (some ⟨g, o, none⟩)) (hy : a.eval y = .agg cells)
    (ht : w.there g o cells.size) (hi : (P.info? ty).map (·.size) = some cells.size) (h1 : cells.all (·.oneCell') = true) (h : K (a.put d undef) (w.setCells g o cells.toList)) : wpOp P ops Q b K a w := by
  subst hd
  unfold wpOp
  have hwd : Region.wanted ob (yielded ops a.tmps) = true := by simp [Region.wanted, hgd]
  simp only [hob, hwd, if_true]
  exact .inl (wp_store_mid ty x y ho g o cells hx hy ht hi h1 h)
end

end Go.Proofs.YtnolbpekdikamaaGreatDoor
namespace Go.Proofs.YtnolbpekdikamaaGreatDoor
open Go.RowKit Go.BigFrame Go.Shelf Go.Sort Go.Proofs.YtnolbpekdikamaaGreatDoor.Ev
set_option linter.unusedVariables false
set_option linter.unusedSimpArgs false

/-- The library's table of powers of ten. -/
def PwAt (w : World) : Prop := Lib.TabIs Tryz.prog w "internal/strconv.uint64pow10" .u64 Lib.pow10Tab
theorem PwAt.keep {w u : World} (h : PwAt w) (G : Below w.heap.size w u) : PwAt u := Lib.tabBelow_of_tabIs h u G
theorem itoa_any (n : Int) (h0 : -9223372036854775808 ≤ n) (h1 : n ≤ 9223372036854775807) (w : World) (T : PwAt w) :
    Calls Tryz.prog 39 #[.int .i64 n] w fun e w' => e = .returned (.string ⟨(Lib.itoa n).toArray⟩) ∧ Below w.heap.size w w' :=
  (Any.strconv_Itoa It.laysM_n171 n h0 h1 w T).mono fun e w' ⟨he, k, os, hw⟩ => ⟨he, hw ▸ Lib.below_grow _ w (Nat.le_refl _) k os⟩
theorem itm_rng (l : List It) (hl : l.length ≤ 9223372036854775807) (s : ByteArray) : -9223372036854775808 ≤ itmI l s ∧ itmI l s ≤ 9223372036854775807 := by
  unfold itmI
  cases h : itemF l l.length s with
  | none => exact ⟨by decide, by decide⟩
  | some i =>
    obtain ⟨h0, h1, _⟩ := itemF_some h
    exact ⟨by show _ ≤ i; omega, by show i ≤ _; omega⟩
theorem renV_size (i : Int) (h0 : -9223372036854775808 ≤ i) (h1 : i ≤ 9223372036854775807) : (renV i).size ≤ 22 := by
  have := Lib.itoa_length_le i h0 h1
  unfold renV
  rw [ByteArray.size_append]
  have e : (⟨(Lib.itoa i).toArray⟩ : ByteArray).size = (Lib.itoa i).length := by simp [ByteArray.size]
  rw [e]
  show 1 + _ ≤ 22
  omega
/-- An item of which the name alone is told. -/
def riC (i : It) : Array Value := #[.bool false, .slice none 0 0, .string i.v, .int .i64 0, .int .i64 0]
theorem riC_sz (i : It) : (riC i).size = 5 := rfl
theorem ri_ones (i : It) : ∀ u ∈ (riC i).toList, u.oneCell' = true := fun u hu => by
  simp [riC] at hu
  rcases hu with rfl | rfl | rfl | rfl | rfl <;> rfl
theorem nf_item : (Tryz.prog.info? 69).map (fun i => (i.zero, i.size, i.bytes)) = some (some (.agg (riC ⟨false, [], eS, 0, 0⟩)), 5, 64) := by kernel_rfl
theorem bldRi (i : It) (w : World) : (Instr.buildSlice 25 1 #[(0, .agg (riC i))]).run Tryz.prog w = .ok (.slice (some ⟨w.heap.size, 0, none⟩) 1 1) (w.alloc (.cells (riC i) 69)) := by kernel_rfl
theorem nf_nodeR : (Tryz.prog.info? 64).map (fun i => (i.zero, i.size, i.bytes)) = some (some (.agg (ndA noNd)), 6, 64) := by kernel_rfl
section
variable {P : Program} {ops : Array Oper} {Q : Exit → Act → World → Prop}
/-- One more element, in a region that draws. -/
theorem wpOp_append_one {b : Nat} {ob : Oper} {a : Act} {w : World} {K : Act → World → Prop} (d : Option Tmp) (hob : ops[b]? = some ob) (hd : ob.dst = d) (hgd : ob.guard = none) (s x : Operand) {TS T : TypeId} {z : Value} {sz by_ : Nat}
    (ho : ob.op = .call { callee := .builtin .append, args := #[s, x], argTypes := #[TS, TS] }) (hu : P.underlying TS = some (.slice T)) (nf : (P.info? T).map (fun i => (i.zero, i.size, i.bytes)) = some (some z, sz, by_)) (hzs : z.cells.size = sz) (hsz : 0 < sz)
    (v : Value) (base n : Nat) (xs : List Value) (hs : a.eval s = v) (O : w.ownsRow base T sz v n xs) (hb : base ≤ w.heap.size)
    (ad : Addr) (c : Nat) (ys : List Value) (hx : a.eval x = .slice (some ad) 1 c) (hy : ys.length = sz) (A : ∀ j u, ys[j]? = some u → w.cell? (ad.add j) = some u) (h1 : ∀ u ∈ ys, u.oneCell' = true) (h63 : n + 1 ≤ 9223372036854775807) (hl : ((n + 1) + (n + 1) / 4 + 192) * by_ ≤ 281474976710656)
    (h : ∀ g cap w', w'.ownsRow base T sz (.slice (some ⟨g, 0, none⟩) (n + 1) cap) (n + 1) (xs ++ ys) → w.grownBy w' v.ownBlock → (v.ownBlock = some g ∨ g = w.heap.size) → K (a.put d (.slice (some ⟨g, 0, none⟩) (n + 1) cap)) w') : wpOp P ops Q b K a w := by
  obtain ⟨g, cap, w', hr, h2, h3, h4⟩ := run_append_one (P := P) (ty := ob.type) hu nf hzs hsz O hb ad c ys hy A h1 h63 hl
  refine wpOp_val (v := .slice (some ⟨g, 0, none⟩) (n + 1) cap) (w' := w') d hob hd hgd ?_ (h g cap w' h2 h3 h4)
  unfold execOp
  simp only [ho, resolve, invoke, builtin, Sem.run_bind, Sem.run_pure, Result.andThen_ok, List.map_toArray, List.map_cons, List.map_nil, hs, hx, hr]
/-- A slice is written into one cell. -/
theorem wpOp_setS {b : Nat} {ob : Oper} {a : Act} {w : World} {K : Act → World → Prop} (d : Option Tmp) (hob : ops[b]? = some ob) (hd : ob.dst = d) (hgd : ob.guard = none) (ty : TypeId) (x y : Operand) (ho : ob.op = .store ty x y) (g o : Nat) (ao : Option Addr) (n c : Nat) (hx : a.eval x = .pointer (some ⟨g, o, none⟩)) (hy : a.eval y = .slice ao n c)
    {u : Value} (c0 : w.cell? ⟨g, o, none⟩ = some u) (f0 : w.frozen? ⟨g, o, none⟩ = false) (hi : (P.info? ty).map (·.size) = some 1) (h : K (a.put d undef) (w.setCell ⟨g, o, none⟩ (.slice ao n c))) : wpOp P ops Q b K a w := by
  refine wpOp_skip d hob hd hgd ?_ h
  unfold execOp
  cases hq : P.info? ty with
  | none => simp [hq] at hi
  | some i =>
    have hs : i.size = 1 := by simp [hq] at hi; exact hi
    have hz : (sizeOf ty).run P w = .ok 1 w := by simp [sizeOf, typeInfo, hq, hs]
    simp only [ho, hx, hy]
    simp [go_sem, c0, f0, hz]
end
theorem bldR (s : ByteArray) (w : World) : (Instr.build 69 #[(2, .string s)]).run Tryz.prog w = .ok (.agg #[.bool false, .slice none 0 0, .string s, .int .i64 0, .int .i64 0]) w := by kernel_rfl
/-- In a region that only reads: a struct of which one field is told. -/
theorem quiet_build1 {P : Program} {ops : Array Oper} {C : World → Prop} {Q : Act → Prop} {o : Oper} {rest : List Oper} {a : Act} (hw : Region.wanted o (yielded ops a.tmps) = true) {T : TypeId} {f : Nat} (x : Operand) {vx v : Value} (ho : o.op = .build T #[(f, x)]) (hx : a.eval x = vx) (hr : ∀ w, (Instr.build T #[(f, vx)]).run P w = .ok v w)
    (a' : Act) (ha : a.put o.dst v = a') (h : wpQuiet P ops C Q rest a') : wpQuiet P ops C Q (o :: rest) a := by
  subst ha
  refine wpQuiet_want hw fun K hK => ⟨v, fun w hC => ?_, hK _ h⟩
  unfold Oper.quietAt execOp
  simp only [ho, List.map_toArray, List.map_cons, List.map_nil, hx, Sem.run_bind, hr, Result.andThen_ok, Sem.run_pure]
  exact ⟨rfl, rfl⟩
theorem catR (z : Int) (h0 : -9223372036854775808 ≤ z) (h1 : z ≤ 9223372036854775807) (w : World) : (binOp .add 9 (.string ⟨#[118]⟩) (.string ⟨(Lib.itoa z).toArray⟩)).run Tryz.prog w = .ok (.string (renV z)) w := by
  have u := Tryz.underlying9
  have h9 := Lib.itoa_length_le z h0 h1
  unfold renV
  simp [binOp, u, go_sem, run_underlying u]
  first | omega | (show 1 + _ ≤ 9223372036854775807; omega)
/-- In a region that only reads: an operator. -/
theorem quiet_op {P : Program} {ops : Array Oper} {C : World → Prop} {Q : Act → Prop} {o : Oper} {rest : List Oper} {a : Act} (hw : Region.wanted o (yielded ops a.tmps) = true) {b : BinOp} {T U : TypeId} (x y : Operand) {v0 v1 v : Value} (ho : o.op = .binOp b T x y U) (h0 : a.eval x = v0) (h1 : a.eval y = v1) (hg : ∀ w, (eqGuard b T x y v0 v1).run P w = .ok () w) (hr : ∀ w, (binOp b T v0 v1).run P w = .ok v w)
    (a' : Act) (ha : a.put o.dst v = a') (h : wpQuiet P ops C Q rest a') : wpQuiet P ops C Q (o :: rest) a := by
  subst ha
  refine wpQuiet_want hw fun K hK => ⟨v, fun w hC => ?_, hK _ h⟩
  unfold Oper.quietAt execOp
  simp only [ho, h0, h1, Sem.run_bind, hg, hr, Result.andThen_ok, Sem.run_pure]
  exact ⟨rfl, rfl⟩
theorem ldI_run {o : Oper} {a : Act} {w : World} (x : Operand) {g off : Nat} {ao : Option Addr} {n c : Nat} (ho : o.op = .load 25 x) (hx : a.eval x = .pointer (some ⟨g, off, none⟩)) (h : w.cell? ⟨g, off, none⟩ = some (.slice ao n c)) : (execOp a.eval o).run Tryz.prog w = .ok (.value (.slice ao n c)) w := by
  have hu := Tryz.underlying25
  unfold execOp
  simp only [ho, hx]
  simp [Instr.loadAt, Instr.sureAddr, loadVar, asAddr, run_underlying hu, h]
abbrev zQ (v : Value) : Array Value := #[v, .int .i64 0, .int .i64 0, .slice none 0 0, .int .i64 0, .string eS, .slice none 0 0]
theorem its_of_row {w : World} {b : Nat} {ao : Option Addr} {c : Nat} {l : List It} (h : w.ownsRow b 69 5 (.slice ao l.length c) l.length (fl riC l)) (hl : ∀ i, i < l.length → (l.getD i noIt).neg = false ∧ (l.getD i noIt).ty = [] ∧ (l.getD i noIt).lo = 0 ∧ (l.getD i noIt).hi = 0) : IsIts w ao l := fun i hi => by
  obtain ⟨e1, e2, e3, e4⟩ := hl i hi
  have hf := own_flat h
  have cell : ∀ j, j < 5 → (fl riC l)[i * 5 + j]? = (riC (l.getD i noIt)).toList[j]? := fun j hj => fl_at riC_sz noIt l i j hi hj
  obtain ⟨g, o, rfl, c0⟩ := hf (i * 5) (.bool false) (by have := cell 0 (by decide); rw [Nat.add_zero] at this; rw [this]; rfl)
  have get : ∀ j u, j < 5 → (riC (l.getD i noIt)).toList[j]? = some u → w.cell? ⟨g, o + (i * 5 + j), none⟩ = some u := fun j u hj hu => by
    obtain ⟨g', o', e, c1⟩ := hf (i * 5 + j) u (by rw [cell j hj]; exact hu)
    cases e
    exact c1
  refine ⟨g, o, rfl, none, 0, ?_, ?_, ?_, ?_, ?_, ?_, ?_⟩
  · rw [e1]; exact c0
  · rw [e2, Nat.add_assoc]; exact get 1 _ (by decide) rfl
  · rw [Nat.add_assoc]; exact get 2 _ (by decide) rfl
  · rw [e3, Nat.add_assoc]; exact get 3 _ (by decide) rfl
  · rw [e4, Nat.add_assoc]; exact get 4 _ (by decide) rfl
  · rw [e2]; exact fun j hj => absurd hj (Nat.not_lt_zero _)
  · rw [e2]; exact ⟨Nat.le_refl _, fun _ => ⟨rfl, rfl⟩⟩
theorem renQ_fit (q : Qy) (hq : q.fit) : (renQ q).fit := by
  have z0 : fI 0 := ⟨by decide, by decide⟩
  refine ⟨by show (renIs q.items).length * 64 ≤ _; rw [renIs_len]; exact hq.n, fun k => ?_, z0, z0, z0, eS_small, ⟨Nat.zero_le _, fun k => by simp [renQ]; exact noNd_fit⟩, Nat.zero_le _, fun k => ⟨by simp [renQ], fun j => by simp [renQ]; exact noNd_fit⟩⟩
  by_cases h : k < q.items.length
  · show ((renIs q.items).getD k noIt).fit
    rw [renIs_at _ _ h]
    obtain ⟨r0, r1⟩ := itm_rng q.items (by have := hq.n; omega) (q.items.getD k noIt).v
    have := renV_size _ r0 r1
    exact ⟨z0, z0, by show (renV _).size ≤ _; omega, Nat.zero_le _, fun j => by simp [renI]; exact eS_small⟩
  · show ((renIs q.items).getD k noIt).fit
    rw [List.getD_eq_getElem?_getD, List.getElem?_eq_none (by rw [renIs_len]; omega)]
    exact noIt_fit
theorem renN_fit (l : List It) (hl : l.length ≤ 9223372036854775807) {n : Nd} (h : n.fit) : (renN l n).fit := by
  unfold renN
  split
  · exact h
  · obtain ⟨r0, r1⟩ := itm_rng l hl n.v
    have := renV_size _ r0 r1
    obtain ⟨h1, h2, h3, h4, h5, h6⟩ := h
    exact ⟨h1, h2, h3, h4, by show (renV _).size ≤ _; omega, h6⟩

end Go.Proofs.YtnolbpekdikamaaGreatDoor
