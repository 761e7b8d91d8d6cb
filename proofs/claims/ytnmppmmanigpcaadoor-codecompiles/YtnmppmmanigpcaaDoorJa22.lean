/- What Compile answers, for Run. And what goes with it: 3 texts in one. -/
import Derived.Test.YtnmppmmanigpcaaDoorJa21
namespace Go.Proofs.YtnmppmmanigpcaaDoor
open Go.RowKit Go.BigFrame Go.Proofs.YtnmppmmanigpcaaDoor.Ev
set_option linter.unusedVariables false
set_option linter.unusedSimpArgs false

def cmpG (L : List Ty) (q : Qy) (ns : List Nd) : Prg := ⟨(cmpS L q ns).code, (cmpS L q ns).cols.map Prod.snd⟩
theorem insTo_ok {x : Ins} (h : x.ok) {n : Nat} (hn : n ≤ 9223372036854775807) : (insTo x (n : Int)).ok := ⟨h.n, (fits_iff _).2 (by show (-9223372036854775808 : Int) ≤ ((n : Nat) : Int) ∧ ((n : Nat) : Int) ≤ 9223372036854775807; omega)⟩
theorem nodI_ok (M : ByteArray → Option Int) (s : Cst) {n : Nd} (hn : n.fit) : (nodI M s n).ok := ⟨by
  show fitsB (kLit n) = true
  unfold kLit
  split
  · decide
  · exact fI_fits hn.n, by show fitsB 0 = true; decide⟩
theorem treK_ok (L : List Ty) (M : ByteArray → Option Int) {ns : List Nd} (hf : ∀ k, (ns.getD k noNd).fit) : ∀ k, k ≤ 2000000000000000000 → ∀ x ∈ (treK L M ns k).code, x.ok
  | 0, _ => fun x hx => by simp [treK] at hx
  | k + 1, hk => by
    have ih := treK_ok L M hf k (by omega)
    have hlen := (treK_in L M ns k).2
    have h2 : ∀ x ∈ (nod2 L M (treK L M ns k) (ns.getD k noNd)).code, x.ok := fun x hx => by
      have hc : (nod1 L (treK L M ns k) (ns.getD k noNd)).code = (treK L M ns k).code := (nod1_cols (treK_cols L M ns k)).2.2.1
      unfold nod2 at hx
      dsimp only at hx
      rw [hc] at hx
      rcases List.mem_append.1 hx with h | h
      · exact ih x h
      · rw [List.mem_singleton] at h; subst h; exact nodI_ok M _ (hf k)
    have hl2 := (nod2_code L M (treK L M ns k) (ns.getD k noNd)).1
    have h3 : ∀ x ∈ (nodS L M (treK L M ns k) (ns.getD k noNd)).code, x.ok := fun x hx => by
      unfold nodS at hx
      split at hx
      · unfold landS at hx
        dsimp only at hx
        rcases List.mem_or_eq_of_mem_set hx with h | h
        · exact h2 x h
        · subst h
          refine insTo_ok ?_ (by omega)
          rw [List.getD_eq_getElem?_getD]
          cases e : (nod2 L M (treK L M ns k) (ns.getD k noNd)).code[lastN (nod2 L M (treK L M ns k) (ns.getD k noNd)).opn]? with
          | none => exact ⟨by decide, by decide⟩
          | some y => exact h2 y (List.mem_of_getElem? e)
      · exact h2 x hx
    rw [treK_succ]
    split
    · exact h3
    · intro x hx
      unfold jumpS at hx
      dsimp only at hx
      rcases List.mem_append.1 hx with h | h
      · exact h3 x h
      · rw [List.mem_singleton] at h; subst h; exact ⟨by show fitsB 0 = true; decide, by show fitsB 0 = true; decide⟩
theorem getD_ok {l : List Ins} (h : ∀ x ∈ l, x.ok) (j : Nat) : (l.getD j noIn).ok := by
  rw [List.getD_eq_getElem?_getD]
  cases e : l[j]? with
  | none => exact ⟨by decide, by decide⟩
  | some y => exact h y (List.mem_of_getElem? e)
def envZ : Envr := ⟨[], 0, 0⟩
theorem cmpG_ok (L : List Ty) (q : Qy) {ns : List Nd} (hf : ∀ k, (ns.getD k noNd).fit) (hr : ns.length * 64 ≤ 140737488351232) (hL : L.length * 8 ≤ 140737488351232) : (cmpG L q ns).ok := by
  unfold cmpG cmpS
  cases h : runB (itemF q.items q.items.length) ns with
  | false =>
    rw [if_neg (by decide)]
    exact ⟨by simp, by simp, fun j => by simp, fun j => by simp; exact ⟨by decide, by decide⟩⟩
  | true =>
    rw [if_pos rfl]
    have hlen := (run_tree L (itemF q.items q.items.length) envZ h).2.1
    have hc := (treK_len L (itemF q.items q.items.length) ns ns.length).1
    have hcols := treK_cols L (itemF q.items q.items.length) ns ns.length
    refine ⟨by show (treK L _ ns ns.length).code.length * 40 ≤ _; omega, by rw [List.length_map]; omega, fun j => ?_, getD_ok (treK_ok L _ hf ns.length (by omega))⟩
    show (((treK L _ ns ns.length).cols.map Prod.snd).getD j []).length * 8 ≤ _
    rw [List.getD_eq_getElem?_getD, List.getElem?_map]
    cases e : (treK L (itemF q.items q.items.length) ns ns.length).cols[j]? with
    | none => simp
    | some y =>
      have := hcols y (List.mem_of_getElem? e)
      show y.2.length * 8 ≤ _
      rw [this, colRow_len]
      exact hL
theorem cmpG_run (L : List Ty) (q : Qy) (E : Envr) {ns : List Nd} (h : runB (itemF q.items q.items.length) ns = true) : 0 < (cmpG L q ns).code.length ∧ runV (cmpG L q ns) E = (evalV L q E ns, 0) := by
  obtain ⟨h1, _, h2⟩ := run_tree L (itemF q.items q.items.length) E h
  unfold runV cmpG cmpS evalV
  rw [if_pos h, if_pos h]
  exact ⟨h1, h2⟩
theorem cmpG_not (L : List Ty) (q : Qy) (E : Envr) {ns : List Nd} (h : runB (itemF q.items q.items.length) ns = false) : cmpG L q ns = ⟨[], []⟩ ∧ evalV L q E ns = noV2 := by
  unfold cmpG cmpS evalV
  rw [h, if_neg (by decide), if_neg (by decide)]
  exact ⟨rfl, rfl⟩
theorem CmpP.pr {w : World} {L : List Ty} {q : Qy} {ns : List Nd} {e : Ending} {w' : World} (h : CmpP w (cmpS L q ns) e w') : ∃ ai ci ac cc ws, e = .returned (prgA (cmpG L q ns) ai ci ac cc) ∧ IsPr w' (cmpG L q ns) ai ci ac cc ∧ Below w.heap.size w w' ∧ w'.ownsRow w.heap.size 74 5 (.slice ai (cmpG L q ns).code.length ci) (cmpG L q ns).code.length (fl insC (cmpG L q ns).code) ∧
    ONst w' w.heap.size 60 3 1 intC (.slice ac (cmpG L q ns).cols.length cc) (cmpG L q ns).cols ws := by
  obtain ⟨ai, ci, ac, cc, ws, rfl, O, P, G⟩ := h.ex
  have hml : (cmpG L q ns).cols.length = (cmpS L q ns).cols.length := by unfold cmpG; simp
  rw [← hml] at P
  refine ⟨ai, ci, ac, cc, ws, by rw [← hml]; rfl, ⟨own_flat O, own_sl O, P.nst, own_sl P.own⟩, G, O, P⟩
end Go.Proofs.YtnmppmmanigpcaaDoor
namespace Go.Proofs.YtnmppmmanigpcaaDoor
open Go.RowKit Go.BigFrame Go.Proofs.YtnmppmmanigpcaaDoor.Ev
set_option linter.unusedVariables false
set_option linter.unusedSimpArgs false

section
variable {L : List Ty} {M : ByteArray → Option Int} {ns : List Nd}
/-- The place of the node k's own instruction. -/
def posN (L : List Ty) (M : ByteArray → Option Int) (ns : List Nd) (k : Nat) : Nat := (treK L M ns k).code.length
theorem pos_succ (k : Nat) : posN L M ns (k + 1) = posN L M ns k + 1 + (if jmpF ns ns.length k = 0 then 0 else 1) := by
  unfold posN
  rw [treK_succ]
  split
  · rw [nodS_code]
  · unfold jumpS
    dsimp only
    rw [List.length_append, nodS_code]
    rfl
theorem pos_mono {j k : Nat} (h : j ≤ k) : posN L M ns j ≤ posN L M ns k := by
  induction k with
  | zero => have : j = 0 := by omega
            subst this; exact Nat.le_refl _
  | succ k ih =>
    by_cases e : j = k + 1
    · subst e; exact Nat.le_refl _
    · have := ih (by omega)
      have h2 := pos_succ (L := L) (M := M) (ns := ns) k
      omega
/-- The code with the subtree of i at its end. -/
def endC (L : List Ty) (M : ByteArray → Option Int) (ns : List Nd) (i : Nat) : List Ins := (nodS L M (treK L M ns i) (ns.getD i noNd)).code
theorem endC_len (i : Nat) : (endC L M ns i).length = posN L M ns i + 1 := nodS_code _ _ _ _
theorem kCod_pos {op : Int} (h : 1 ≤ op) : kCod op ≠ 0 := by
  unfold kCod
  split
  · decide
  split
  · decide
  split
  · decide
  split
  · omega
  · omega
theorem in_range {C : List Ins} {x : Nat} {y : Ins} (h : C.getD x noIn = y) (hy : y.code ≠ 0) : x < C.length := by
  by_cases e : x < C.length
  · exact e
  · rw [List.getD_eq_getElem?_getD, List.getElem?_eq_none (by omega)] at h
    subst h
    exact absurd rfl hy
theorem getD_left {a b : List Ins} {x : Nat} (h : x < a.length) : (a ++ b).getD x noIn = a.getD x noIn := by
  rw [List.getD_eq_getElem?_getD, List.getElem?_append_left h, ← List.getD_eq_getElem?_getD]
theorem getD_right {a b : List Ins} {x : Nat} (h : a.length ≤ x) : (a ++ b).getD x noIn = b.getD (x - a.length) noIn := by
  rw [List.getD_eq_getElem?_getD, List.getElem?_append_right h, ← List.getD_eq_getElem?_getD]
/-- In the code that ends with the subtree of i all its nodes stand at their places. -/
structure StandW (L : List Ty) (M : ByteArray → Option Int) (ns : List Nd) (lo i : Nat) (C : List Ins) : Prop where
  own : ∀ j, lo ≤ j → j ≤ i → C.getD (posN L M ns j) noIn = nodI M (treK L M ns j) (ns.getD j noNd)
  jmp : ∀ p, lo ≤ p → p ≤ i → aoB (ns.getD p noNd) = true → C.getD (posN L M ns (ns.getD p noNd).l.toNat + 1) noIn = ⟨(ns.getD p noNd).op, 0, 0, 0, ((posN L M ns p + 1 : Nat) : Int)⟩
theorem nodI_code (s : Cst) (n : Nd) : (nodI M s n).code = kCod n.op := rfl
theorem stand_every {bs : List Int} (hb : begsO ns [] = some bs) (hr : runB M ns = true) : ∀ i, i < ns.length → StandW L M ns (bg bs i) i (endC L M ns i) := by
  have K : ∀ i, i < ns.length → Kin ns bs i := fun i hi => kin_of hb i hi
  have ht : treeB ns = true := by unfold runB at hr; rw [Bool.and_eq_true] at hr; exact hr.1
  intro i
  induction i using Nat.strongRecOn with
  | ind i ih =>
    intro hi
    have k := K i hi
    have nz : ∀ j, j < ns.length → (nodI M (treK L M ns j) (ns.getD j noNd)).code ≠ 0 := fun j hj => by rw [nodI_code]; exact kCod_pos (K j hj).op.1
    have jz : ∀ p, aoB (ns.getD p noNd) = true → (⟨(ns.getD p noNd).op, 0, 0, 0, ((posN L M ns p + 1 : Nat) : Int)⟩ : Ins).code ≠ 0 := fun p h => by
      have := of_decide_eq_true h
      show (ns.getD p noNd).op ≠ 0
      omega
    rcases k.how with ⟨h, e, _, _⟩ | ⟨h, e0, e1, e2, e⟩ | ⟨h, e0, e1, e2, e3, e⟩
    · rw [e]
      have hc : endC L M ns i = (treK L M ns i).code ++ [nodI M (treK L M ns i) (ns.getD i noNd)] := by
        unfold endC
        rw [nodS_low (by omega)]
        unfold nod2
        rw [(nod1_cols (n := ns.getD i noNd) (treK_cols L M ns i)).2.2.1]
      refine ⟨fun j h1 h2 => ?_, fun p h1 h2 hp => ?_⟩
      · obtain rfl : j = i := by omega
        rw [hc, getD_right (show (treK L M ns j).code.length ≤ posN L M ns j from Nat.le_refl _)]
        unfold posN
        rw [Nat.sub_self]
        rfl
      · obtain rfl : p = i := by omega
        have := of_decide_eq_true hp
        omega
    · have W := ih (i - 1) (by omega) (by omega)
      have hno : jmpF ns ns.length (i - 1) = 0 := jmpF_no fun p hp ha hl => by
        have := kin_uniq K hp hi (.inl hl) (.inl e1)
        subst this
        have := of_decide_eq_true ha
        omega
      have hs : treK L M ns i = nodS L M (treK L M ns (i - 1)) (ns.getD (i - 1) noNd) := by
        have := treK_succ L M ns (i - 1)
        rw [hno, if_pos rfl, Nat.sub_add_cancel e0] at this
        exact this
      have hc : endC L M ns i = endC L M ns (i - 1) ++ [nodI M (treK L M ns i) (ns.getD i noNd)] := by
        show (nodS L M (treK L M ns i) (ns.getD i noNd)).code = _
        rw [nodS_low (by omega)]
        unfold nod2
        rw [nod1_low (by omega)]
        show (treK L M ns i).code ++ _ = _
        rw [hs]
        rfl
      have hp : posN L M ns i = (endC L M ns (i - 1)).length := by unfold posN endC; rw [hs]
      rw [e]
      refine ⟨fun j h1 h2 => ?_, fun p h1 h2 hpa => ?_⟩
      · by_cases ej : j = i
        · subst ej
          rw [hc, getD_right (by omega), hp, Nat.sub_self]
          rfl
        · have := W.own j h1 (by omega)
          rw [hc, getD_left (in_range this (nz j (by omega)))]
          exact this
      · by_cases ej : p = i
        · subst ej
          have := of_decide_eq_true hpa
          omega
        · have := W.jmp p h1 (by omega) hpa
          rw [hc, getD_left (in_range this (jz p hpa))]
          exact this
    · have kr := (K (i - 1) (by omega)).le
      have kl := (K (bg bs (i - 1) - 1) (by omega)).le
      have WA := ih (bg bs (i - 1) - 1) (by omega) (by omega)
      have WB := ih (i - 1) (by omega) (by omega)
      obtain ⟨bl, _, S⟩ := sub_every L M envZ hb hr (bg bs (i - 1) - 1) (by omega)
      obtain ⟨br, _, T⟩ := sub_every L M envZ hb hr (i - 1) (by omega)
      have hnr : jmpF ns ns.length (i - 1) = 0 := jmpF_no fun p hp ha hl => by
        have := kin_uniq K hp hi (.inl hl) (.inr e2)
        subst this
        omega
      have hs : treK L M ns i = nodS L M (treK L M ns (i - 1)) (ns.getD (i - 1) noNd) := by
        have := treK_succ L M ns (i - 1)
        rw [hnr, if_pos rfl, Nat.sub_add_cancel e0] at this
        exact this
      have hp : posN L M ns i = (endC L M ns (i - 1)).length := by unfold posN endC; rw [hs]
      have hsl := treK_succ L M ns (bg bs (i - 1) - 1)
      rw [Nat.sub_add_cancel e1] at hsl
      have hin : ∀ j, bg bs i ≤ j → j ≤ i → j = i ∨ (bg bs (i - 1) ≤ j ∧ j ≤ i - 1) ∨ (bg bs (bg bs (i - 1) - 1) ≤ j ∧ j ≤ bg bs (i - 1) - 1) := fun j h1 h2 => by
        rw [e] at h1
        omega
      by_cases h25 : (ns.getD i noNd).op < 25
      · have hnl : jmpF ns ns.length (bg bs (i - 1) - 1) = 0 := jmpF_no fun p hp ha hl => by
          have := kin_uniq K hp hi (.inl hl) (.inl e3)
          subst this
          have := of_decide_eq_true ha
          omega
        rw [hnl, if_pos rfl] at hsl
        have hB : endC L M ns (i - 1) = endC L M ns (bg bs (i - 1) - 1) ++ br := by
          show (nodS L M (treK L M ns (i - 1)) (ns.getD (i - 1) noNd)).code = _
          rw [T.code, hsl]
          rfl
        have hc : endC L M ns i = endC L M ns (i - 1) ++ [nodI M (treK L M ns i) (ns.getD i noNd)] := by
          show (nodS L M (treK L M ns i) (ns.getD i noNd)).code = _
          rw [nodS_low (by omega)]
          unfold nod2
          rw [nod1_low (by omega)]
          show (treK L M ns i).code ++ _ = _
          rw [hs]
          rfl
        refine ⟨fun j h1 h2 => ?_, fun p h1 h2 hpa => ?_⟩
        · rcases hin j h1 h2 with rfl | ⟨h3, h4⟩ | ⟨h3, h4⟩
          · rw [hc, getD_right (by omega), hp, Nat.sub_self]
            rfl
          · have := WB.own j h3 h4
            rw [hc, getD_left (in_range this (nz j (by omega)))]
            exact this
          · have := WA.own j h3 h4
            have hr2 := in_range this (nz j (by omega))
            rw [hc, getD_left (by rw [hB, List.length_append]; omega), hB, getD_left hr2]
            exact this
        · rcases hin p h1 h2 with rfl | ⟨h3, h4⟩ | ⟨h3, h4⟩
          · have := of_decide_eq_true hpa
            omega
          · have := WB.jmp p h3 h4 hpa
            rw [hc, getD_left (in_range this (jz p hpa))]
            exact this
          · have := WA.jmp p h3 h4 hpa
            have hr2 := in_range this (jz p hpa)
            rw [hc, getD_left (by rw [hB, List.length_append]; omega), hB, getD_left hr2]
            exact this
      · have ha : aoB (ns.getD i noNd) = true := decide_eq_true (by have := k.op.2; omega)
        have hj := jmpF_val ns (bg bs (i - 1) - 1) i e3 ha ns.length hi fun q hq hqa hql => kin_uniq K hq hi (.inl hql) (.inl e3)
        rw [hj, if_neg (by omega)] at hsl
        have T2 := T
        rw [hsl] at T2
        have hk25 := of_decide_eq_true ha
        have hcan : canon (valA L M envZ ns (bg bs (i - 1) - 1)) := by
          refine canon_val L M envZ ht (by omega) ?_
          have hall : runN M ns (ns.getD i noNd) = true := by
            unfold runB at hr
            rw [Bool.and_eq_true, List.all_eq_true] at hr
            refine hr.2 _ ?_
            rw [List.getD_eq_getElem?_getD, List.getElem?_eq_getElem hi]
            exact List.getElem_mem hi
          unfold runN at hall
          rw [Bool.and_eq_true] at hall
          have hk := hall.1
          unfold kFit at hk
          split at hk
          · cases hk
          rename_i hkl
          unfold kKid at hkl
          rw [e3, decide_eq_true (by omega), Bool.true_and, Int.toNat_natCast] at hkl
          have hjo : kJoin (ns.getD i noNd).op = true := decide_eq_true (by omega)
          rw [hjo] at hkl
          cases hkt : kTr (ns.getD (bg bs (i - 1) - 1) noNd).op with
          | true => rfl
          | false => rw [hkt] at hkl; exact absurd rfl hkl
        have J := sub_jump (L := L) (M := M) (n := ns.getD i noNd) S T2 hcan hk25
        obtain ⟨jv, hjv⟩ : ∃ jv : Ins, (⟨(ns.getD i noNd).op, 0, 0, 0, ((posN L M ns i + 1 : Nat) : Int)⟩ : Ins) = jv := ⟨_, rfl⟩
        have hA : endC L M ns (bg bs (i - 1) - 1) = (treK L M ns (bg bs (bg bs (i - 1) - 1))).code ++ bl := S.code
        have hB : endC L M ns (i - 1) = endC L M ns (bg bs (i - 1) - 1) ++ (⟨(ns.getD i noNd).op, 0, 0, 0, 0⟩ :: br) := by
          show (nodS L M (treK L M ns (i - 1)) (ns.getD (i - 1) noNd)).code = _
          rw [T2.code]
          show (nodS L M (treK L M ns (bg bs (i - 1) - 1)) (ns.getD (bg bs (i - 1) - 1) noNd)).code ++ [_] ++ br = _
          rw [List.append_assoc]
          rfl
        have hto : (treK L M ns (bg bs (bg bs (i - 1) - 1))).code.length + bl.length + 1 + br.length + 1 = posN L M ns i + 1 := by
          rw [hp, hB, hA]
          simp
          omega
        have hc : endC L M ns i = endC L M ns (bg bs (i - 1) - 1) ++ (jv :: (br ++ [nodI M (treK L M ns i) (ns.getD i noNd)])) := by
          have h2 : (nodS L M (nodS L M (treK L M ns (i - 1)) (ns.getD (i - 1) noNd)) (ns.getD i noNd)).code = endC L M ns i := by rw [← hs]; rfl
          rw [J.code, hto, hjv] at h2
          rw [← h2, hA, hs]
          simp
        have hAl := endC_len (L := L) (M := M) (ns := ns) (bg bs (i - 1) - 1)
        have hposB : posN L M ns (bg bs (i - 1)) = (endC L M ns (bg bs (i - 1) - 1)).length + 1 := by
          unfold posN
          rw [hsl]
          show ((nodS L M (treK L M ns (bg bs (i - 1) - 1)) (ns.getD (bg bs (i - 1) - 1) noNd)).code ++ [_]).length = _
          rw [List.length_append]
          rfl
        have same : ∀ x, (endC L M ns (bg bs (i - 1) - 1)).length + 1 ≤ x → x < (endC L M ns (i - 1)).length → (endC L M ns i).getD x noIn = (endC L M ns (i - 1)).getD x noIn := fun x h1 h2 => by
          rw [hB, List.length_append, List.length_cons] at h2
          rw [hc, hB, getD_right (by omega), getD_right (by omega)]
          obtain ⟨y, hy⟩ : ∃ y, x - (endC L M ns (bg bs (i - 1) - 1)).length = y + 1 := ⟨x - (endC L M ns (bg bs (i - 1) - 1)).length - 1, by omega⟩
          rw [hy]
          show (br ++ [_]).getD y noIn = br.getD y noIn
          exact getD_left (by omega)
        refine ⟨fun j h1 h2 => ?_, fun p h1 h2 hpa => ?_⟩
        · rcases hin j h1 h2 with rfl | ⟨h3, h4⟩ | ⟨h3, h4⟩
          · have hl : posN L M ns j = (endC L M ns (bg bs (j - 1) - 1)).length + (br.length + 1) := by rw [hp, hB, List.length_append, List.length_cons]
            rw [hc, getD_right (by omega), hl, Nat.add_sub_cancel_left]
            show (br ++ [nodI M (treK L M ns j) (ns.getD j noNd)]).getD br.length noIn = _
            rw [getD_right (Nat.le_refl _), Nat.sub_self]
            rfl
          · have := WB.own j h3 h4
            have hr2 := in_range this (nz j (by omega))
            have hm := pos_mono (L := L) (M := M) (ns := ns) h3
            rw [same _ (by omega) hr2]
            exact this
          · have := WA.own j h3 h4
            have hr2 := in_range this (nz j (by omega))
            rw [hc, getD_left hr2]
            exact this
        · rcases hin p h1 h2 with rfl | ⟨h3, h4⟩ | ⟨h3, h4⟩
          · rw [e3, Int.toNat_natCast, hc, getD_right (by omega), hAl, Nat.sub_self, hjv]
            rfl
          · have := WB.jmp p h3 h4 hpa
            have hr2 := in_range this (jz p hpa)
            have hpl : bg bs (i - 1) ≤ (ns.getD p noNd).l.toNat := by
              have kp := K p (by omega)
              have hk := of_decide_eq_true hpa
              rcases kp.how with ⟨q, _⟩ | ⟨q, _⟩ | ⟨_, q0, q1, q2, q3, q4⟩
              · omega
              · omega
              · rw [q3, Int.toNat_natCast]
                have hlam := kin_lam K (i - 1) (by omega) p h3 h4
                have := (K (bg bs (p - 1) - 1) (by have := (K (p - 1) (by omega)).le; omega)).le
                omega
            have hm := pos_mono (L := L) (M := M) (ns := ns) hpl
            rw [same _ (by omega) hr2]
            exact this
          · have := WA.jmp p h3 h4 hpa
            have hr2 := in_range this (jz p hpa)
            rw [hc, getD_left hr2]
            exact this
/-- Of the whole program. -/
theorem stand_all (ht : treeB ns = true) (hr : runB M ns = true) : StandW L M ns 0 (ns.length - 1) (treK L M ns ns.length).code ∧ (treK L M ns ns.length).code.length = posN L M ns (ns.length - 1) + 1 := by
  obtain ⟨hb, hpos, h0, K⟩ := tree_bs ht
  have hno : jmpF ns ns.length (ns.length - 1) = 0 := jmpF_no fun p hp ha hl => by
    have := kin_kid K hp (.inl hl)
    omega
  have hs := treK_succ L M ns (ns.length - 1)
  rw [hno, if_pos rfl, Nat.sub_add_cancel hpos] at hs
  have W := stand_every (L := L) hb hr (ns.length - 1) (by omega)
  rw [h0] at W
  rw [hs]
  exact ⟨W, nodS_code _ _ _ _⟩
/-- Each place of the program is a node's own, or its jump's. -/
theorem pos_cover : ∀ k x, x < posN L M ns k → ∃ i, i < k ∧ (x = posN L M ns i ∨ (x = posN L M ns i + 1 ∧ jmpF ns ns.length i ≠ 0))
  | 0, x, h => absurd h (Nat.not_lt_zero _)
  | k + 1, x, h => by
    rw [pos_succ] at h
    by_cases e : x < posN L M ns k
    · obtain ⟨i, h1, h2⟩ := pos_cover k x e
      exact ⟨i, by omega, h2⟩
    · refine ⟨k, Nat.lt_succ_self k, ?_⟩
      split at h
      · exact .inl (by omega)
      · rename_i hj
        by_cases e2 : x = posN L M ns k
        · exact .inl e2
        · exact .inr ⟨by omega, hj⟩
end

end Go.Proofs.YtnmppmmanigpcaaDoor
namespace Go.Proofs.YtnmppmmanigpcaaDoor
open Go.RowKit Go.BigFrame Go.Proofs.YtnmppmmanigpcaaDoor.Ev
set_option linter.unusedVariables false
set_option linter.unusedSimpArgs false

/-- The number of a name in a list; -1: it is not there. -/
def colI (l : List ByteArray) (x : ByteArray) : Int := (colF l x).getD (-1)
/-- No name stands twice. -/
def Uniq (l : List ByteArray) : Prop := ∀ i j, i < l.length → j < l.length → l.getD i eS = l.getD j eS → i = j
theorem colN_has {l : List ByteArray} : ∀ {k : Nat} {s : ByteArray} {i : Int}, colN l k s = some i → ∃ j : Nat, i = (j : Int) ∧ j < k ∧ l.getD j eS = s
  | 0, s, i, h => by cases h
  | k + 1, s, i, h => by
    unfold colN at h
    split at h
    · rename_i e
      cases h
      exact ⟨k, rfl, Nat.lt_succ_self k, e.symm⟩
    · obtain ⟨j, h1, h2, h3⟩ := colN_has h
      exact ⟨j, h1, by omega, h3⟩
theorem colN_none {l : List ByteArray} : ∀ {k : Nat} {s : ByteArray}, colN l k s = none ↔ ∀ j, j < k → l.getD j eS ≠ s
  | 0, s => ⟨fun _ j hj => absurd hj (Nat.not_lt_zero _), fun _ => rfl⟩
  | k + 1, s => by
    unfold colN
    constructor
    · intro h j hj
      split at h
      · cases h
      · rename_i e
        by_cases ej : j = k
        · subst ej; exact fun h2 => e h2.symm
        · exact colN_none.1 h j (by omega)
    · intro h
      rw [if_neg (fun e => h k (Nat.lt_succ_self k) e.symm)]
      exact colN_none.2 fun j hj => h j (by omega)
theorem colF_none {l : List ByteArray} {s : ByteArray} : colF l s = none ↔ ∀ j, j < l.length → l.getD j eS ≠ s := colN_none
theorem colF_at {l : List ByteArray} (U : Uniq l) {i : Nat} (hi : i < l.length) : colF l (l.getD i eS) = some (i : Int) := by
  cases h : colF l (l.getD i eS) with
  | none => exact absurd rfl (colF_none.1 h i hi)
  | some z =>
    obtain ⟨j, rfl, h1, h2⟩ := colN_has h
    rw [U j i h1 hi h2]
theorem colF_lt {l : List ByteArray} {s : ByteArray} {i : Int} (h : colF l s = some i) : 0 ≤ i ∧ i < (l.length : Int) := by
  obtain ⟨j, rfl, h1, _⟩ := colN_has h
  omega
theorem uniq_snoc {l : List ByteArray} (U : Uniq l) {x : ByteArray} (h : colF l x = none) : Uniq (l ++ [x]) := fun i j hi hj e => by
  rw [List.length_append, List.length_singleton] at hi hj
  have low : ∀ k, k < l.length → (l ++ [x]).getD k eS = l.getD k eS := fun k hk => by rw [List.getD_eq_getElem?_getD, List.getElem?_append_left hk, ← List.getD_eq_getElem?_getD]
  have top : (l ++ [x]).getD l.length eS = x := by rw [List.getD_eq_getElem?_getD, List.getElem?_append_right (Nat.le_refl _), Nat.sub_self]; rfl
  have hn := colF_none.1 h
  by_cases h1 : i < l.length
  · by_cases h2 : j < l.length
    · rw [low i h1, low j h2] at e
      exact U i j h1 h2 e
    · obtain rfl : j = l.length := by omega
      rw [low i h1, top] at e
      exact absurd e (hn i h1)
  · obtain rfl : i = l.length := by omega
    by_cases h2 : j < l.length
    · rw [low j h2, top] at e
      exact absurd e.symm (hn j h2)
    · omega
section
variable {L : List Ty} {M : ByteArray → Option Int} {ns : List Nd}
def nmK (L : List Ty) (M : ByteArray → Option Int) (ns : List Nd) (k : Nat) : List ByteArray := (treK L M ns k).names
theorem nodS_colsE (s : Cst) (n : Nd) : (nodS L M s n).cols = (nod1 L s n).cols := by
  unfold nodS
  split <;> rfl
theorem treK_cols_succ (k : Nat) : (treK L M ns (k + 1)).cols = (nod1 L (treK L M ns k) (ns.getD k noNd)).cols := by
  rw [treK_succ]
  split
  · exact nodS_colsE _ _
  · exact nodS_colsE _ _
theorem nm_succ (k : Nat) : nmK L M ns (k + 1) = if hasCol (ns.getD k noNd) = true ∧ colF (nmK L M ns k) (ns.getD k noNd).x = none then nmK L M ns k ++ [(ns.getD k noNd).x] else nmK L M ns k := by
  show (treK L M ns (k + 1)).cols.map Prod.fst = _
  rw [treK_cols_succ]
  unfold nod1
  by_cases h : hasCol (ns.getD k noNd) = true
  · rw [if_pos h]
    unfold colS
    cases hc : colF (treK L M ns k).names (ns.getD k noNd).x with
    | some i =>
      rw [if_neg (fun e => by have := e.2; unfold nmK at this; rw [hc] at this; cases this)]
      rfl
    | none =>
      rw [if_pos ⟨h, hc⟩]
      show ((treK L M ns k).cols ++ [_]).map Prod.fst = _
      rw [List.map_append]
      rfl
  · rw [if_neg h, if_neg (fun e => h e.1)]
    rfl
theorem nm_uniq : ∀ k, Uniq (nmK L M ns k)
  | 0 => fun i j hi => absurd hi (Nat.not_lt_zero _)
  | k + 1 => by
    rw [nm_succ]
    split
    · rename_i h
      exact uniq_snoc (nm_uniq k) h.2
    · exact nm_uniq k
theorem nm_keep {k : Nat} {x : ByteArray} {i : Int} (h : colF (nmK L M ns k) x = some i) : ∀ m, k ≤ m → colF (nmK L M ns m) x = some i := by
  intro m hm
  induction m with
  | zero => have : k = 0 := by omega
            subst this; exact h
  | succ m ih =>
    by_cases e : k = m + 1
    · subst e; exact h
    · have h2 := ih (by omega)
      rw [nm_succ]
      split
      · rename_i h3
        rw [colF_snoc, if_neg (fun e => by rw [e] at h2; rw [h2] at h3; cases h3.2)]
        exact h2
      · exact h2
theorem nm_now {k : Nat} (h : hasCol (ns.getD k noNd) = true) : colF (nmK L M ns (k + 1)) (ns.getD k noNd).x = some (colV (treK L M ns k) (ns.getD k noNd).x) := by
  rw [nm_succ]
  unfold colV
  cases hc : colF (treK L M ns k).names (ns.getD k noNd).x with
  | some i =>
    rw [if_neg (fun e => by have := e.2; unfold nmK at this; rw [hc] at this; cases this)]
    exact hc
  | none =>
    rw [if_pos ⟨h, hc⟩, colF_snoc, if_pos rfl]
    show some (((treK L M ns k).cols.map Prod.fst).length : Int) = _
    rw [List.length_map]
/-- The column's number that a node bears is its name's in the whole list. -/
theorem col_whole {k m : Nat} (hk : k < m) (h : hasCol (ns.getD k noNd) = true) : colI (nmK L M ns m) (ns.getD k noNd).x = colV (treK L M ns k) (ns.getD k noNd).x := by
  unfold colI
  rw [nm_keep (nm_now h) m (by omega)]
  rfl
end

end Go.Proofs.YtnmppmmanigpcaaDoor
