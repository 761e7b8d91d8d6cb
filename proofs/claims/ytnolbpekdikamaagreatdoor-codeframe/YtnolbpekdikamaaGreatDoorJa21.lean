/- What a tree does not mention does not matter: pure. And what goes with it: 6 texts in one. -/
import Derived.Test.YtnolbpekdikamaaGreatDoorJa20
import Derived.Deep.RegionHeld3
namespace Go.Proofs.YtnolbpekdikamaaGreatDoor
open Go.RowKit Go.BigFrame Go.Proofs.YtnolbpekdikamaaGreatDoor.Ev
set_option linter.unusedVariables false
set_option linter.unusedSimpArgs false

/-- Does the number stand in the list? -/
def hasI (l : List Int) (z : Int) : Bool := l.any (· == z)
theorem hasI_mem {l : List Int} {z : Int} : hasI l z = true ↔ z ∈ l := by
  unfold hasI
  rw [List.any_eq_true]
  exact ⟨fun ⟨x, h, e⟩ => by have := beq_iff_eq.1 e; subst this; exact h, fun h => ⟨z, h, beq_iff_eq.2 rfl⟩⟩
/-- The changed list of the item i. -/
def chgL (ag ba : List Int) (other : List (List Ev)) (each : Int) (i : Nat) (l : List Ev) : List Ev :=
  if hasI ag (i : Int) = true ∨ (i : Int) = each then l else if hasI ba (i : Int) = true then (if 1 < l.length then l.take 1 else l) else if i < other.length then other.getD i [] else []
/-- The first k changed lists. -/
def chgK (ag ba : List Int) (other ls : List (List Ev)) (each : Int) (k : Nat) : List (List Ev) := (List.range k).map fun i => chgL ag ba other each i (ls.getD i [])
/-- Does the list that is gone through change too? -/
def chgB (ag ba : List Int) (other ls : List (List Ev)) (each : Int) : Bool := decide (0 ≤ each) && decide (each < (ls.length : Int)) && !hasI ba each && !hasI ag each && decide (each < (other.length : Int))
def chgE (ag ba : List Int) (other ls : List (List Ev)) (each : Int) : List (List Ev) := if chgB ag ba other ls each = true then (chgK ag ba other ls each ls.length).set each.toNat (other.getD each.toNat []) else chgK ag ba other ls each ls.length
theorem chgK_len (ag ba : List Int) (other ls : List (List Ev)) (each : Int) (k : Nat) : (chgK ag ba other ls each k).length = k := by unfold chgK; simp
theorem chgK_succ (ag ba : List Int) (other ls : List (List Ev)) (each : Int) (k : Nat) : chgK ag ba other ls each (k + 1) = chgK ag ba other ls each k ++ [chgL ag ba other each k (ls.getD k [])] := by
  unfold chgK
  rw [List.range_succ, List.map_append]
  rfl
theorem chgK_at (ag ba : List Int) (other ls : List (List Ev)) (each : Int) (k i : Nat) (h : i < k) : (chgK ag ba other ls each k).getD i [] = chgL ag ba other each i (ls.getD i []) := by
  unfold chgK
  rw [List.getD_eq_getElem?_getD, List.getElem?_map, List.getElem?_range h]
  rfl
theorem chgE_len (ag ba : List Int) (other ls : List (List Ev)) (each : Int) : (chgE ag ba other ls each).length = ls.length := by
  unfold chgE
  split
  · rw [List.length_set, chgK_len]
  · rw [chgK_len]
/-- Where the item is mentioned, or not gone through: the list of chgL. -/
theorem chgE_at (ag ba : List Int) (other ls : List (List Ev)) (each : Int) (i : Nat) (h : i < ls.length) (hm : hasI ag (i : Int) = true ∨ hasI ba (i : Int) = true) : (chgE ag ba other ls each).getD i [] = chgL ag ba other each i (ls.getD i []) := by
  unfold chgE
  split
  · rename_i hb
    unfold chgB at hb
    simp only [Bool.and_eq_true, decide_eq_true_eq, Bool.not_eq_true'] at hb
    obtain ⟨⟨⟨⟨b1, b2⟩, b3⟩, b4⟩, b5⟩ := hb
    have hne : each.toNat ≠ i := fun e => by
      have : (i : Int) = each := by omega
      rw [this, b3, b4] at hm
      rcases hm with h | h <;> cases h
    rw [List.getD_eq_getElem?_getD, List.getElem?_set_ne hne, ← List.getD_eq_getElem?_getD]
    exact chgK_at ag ba other ls each _ i h
  · exact chgK_at ag ba other ls each _ i h
/-- Every changed list is one of the others', or a beginning. -/
theorem chgL_or (ag ba : List Int) (other : List (List Ev)) (each : Int) (i : Nat) (l : List Ev) {Pq : List Ev → Prop} (h0 : Pq []) (h1 : Pq l) (h2 : Pq (l.take 1)) (h3 : Pq (other.getD i [])) : Pq (chgL ag ba other each i l) := by
  unfold chgL
  split
  · exact h1
  split
  · split
    · exact h2
    · exact h1
  split
  · exact h3
  · exact h0
theorem chgE_all (ag ba : List Int) (other ls : List (List Ev)) (each : Int) {Pq : List Ev → Prop} (h0 : Pq []) (h1 : ∀ k, Pq (ls.getD k [])) (h2 : ∀ k, Pq ((ls.getD k []).take 1)) (h3 : ∀ k, Pq (other.getD k [])) (k : Nat) : Pq ((chgE ag ba other ls each).getD k []) := by
  have hK : Pq ((chgK ag ba other ls each ls.length).getD k []) := by
    by_cases h : k < ls.length
    · rw [chgK_at _ _ _ _ _ _ _ h]
      exact chgL_or _ _ _ _ _ _ h0 (h1 k) (h2 k) (h3 k)
    · rw [List.getD_eq_getElem?_getD, List.getElem?_eq_none (by rw [chgK_len]; omega)]
      exact h0
  unfold chgE
  split
  · by_cases e : each.toNat = k
    · by_cases hk : k < ls.length
      · rw [List.getD_eq_getElem?_getD, e, List.getElem?_set_self (by rw [chgK_len]; omega)]
        exact h3 k
      · rw [List.getD_eq_getElem?_getD, List.getElem?_eq_none (by rw [List.length_set, chgK_len]; omega)]
        exact h0
    · rw [List.getD_eq_getElem?_getD, List.getElem?_set_ne e, ← List.getD_eq_getElem?_getD]
      exact hK
  · exact hK
/-- An item that a node names so stands in what is mentioned so. -/
theorem use_has {l : List It} {p : Int → Bool} {ns : List Nd} {i : Nat} (hi : i < ns.length) (hp : p (ns.getD i noNd).op = true) {z : Int} (hM : itemF l l.length (ns.getD i noNd).v = some z) : hasI (useK l p ns l.length) z = true := by
  obtain ⟨h0, h1, _⟩ := itemF_some hM
  rw [hasI_mem, mem_useK]
  refine ⟨z.toNat, by omega, by omega, ?_⟩
  unfold hitU
  rw [List.any_eq_true]
  refine ⟨ns.getD i noNd, ?_, ?_⟩
  · rw [List.getD_eq_getElem?_getD, List.getElem?_eq_getElem hi]
    exact List.getElem_mem hi
  · rw [hp, Bool.true_and]
    refine decide_eq_true ?_
    unfold itmI
    rw [hM]
    show z = _
    omega
theorem say_take (f : Int → Int) (l : List Ev) : sayV f (if 1 < l.length then l.take 1 else l) 0 = sayV f l 0 := by
  split
  · rename_i h
    cases l with
    | nil => cases h
    | cons a t =>
      unfold sayV
      rw [if_neg (by simp), if_neg (by simp)]
      rfl
  · rfl
section
variable (L : List Ty) (q : Qy) (ns : List Nd) (E : Envr) (other : List (List Ev))
/-- The changed environment. -/
def chgV : Envr := ⟨chgE (useK q.items agB ns q.items.length) (useK q.items baB ns q.items.length) other E.lists E.each, E.each, E.at_⟩
theorem frame_node (hr : runB (itemF q.items q.items.length) ns = true) (done : List V2) {i : Nat} (hi : i < ns.length) : nodeW L (itemF q.items q.items.length) (chgV q ns E other) done (ns.getD i noNd) = nodeW L (itemF q.items q.items.length) E done (ns.getD i noNd) := by
  have hN := (by unfold runB at hr; rw [Bool.and_eq_true, List.all_eq_true] at hr; exact hr.2 (ns.getD i noNd) (by rw [List.getD_eq_getElem?_getD, List.getElem?_eq_getElem hi]; exact List.getElem_mem hi) : runN (itemF q.items q.items.length) ns (ns.getD i noNd) = true)
  unfold runN at hN
  rw [Bool.and_eq_true] at hN
  have hM : 4 ≤ (ns.getD i noNd).op → (ns.getD i noNd).op ≤ 11 → ∃ z, itemF q.items q.items.length (ns.getD i noNd).v = some z := fun h1 h2 => by
    have := hN.2
    rw [show kMent (ns.getD i noNd).op = true from decide_eq_true ⟨h1, h2⟩, Bool.not_true, Bool.false_or] at this
    exact Option.isSome_iff_exists.1 this
  have hAg := fun (z : Int) (h : itemF q.items q.items.length (ns.getD i noNd).v = some z) (hp : agB (ns.getD i noNd).op = true) => use_has hi hp h
  have hBa := fun (z : Int) (h : itemF q.items q.items.length (ns.getD i noNd).v = some z) (hp : baB (ns.getD i noNd).op = true) => use_has hi hp h
  have hl : ∀ z : Int, hasI (useK q.items agB ns q.items.length) z = true → lstO (chgV q ns E other) z = lstO E z := fun z hz => by
    unfold lstO chgV
    dsimp only
    rw [chgE_len]
    split
    · rfl
    · rename_i h
      have hzn : (z.toNat : Int) = z := by omega
      rw [chgE_at _ _ _ _ _ z.toNat (by omega) (.inl (by rw [hzn]; exact hz))]
      unfold chgL
      rw [hzn, if_pos (.inl hz)]
  have hb : ∀ z : Int, hasI (useK q.items baB ns q.items.length) z = true → z = E.each → lstO (chgV q ns E other) z = lstO E z := fun z hz he => by
    unfold lstO chgV
    dsimp only
    rw [chgE_len]
    split
    · rfl
    · rename_i h
      have hzn : (z.toNat : Int) = z := by omega
      rw [chgE_at _ _ _ _ _ z.toNat (by omega) (.inr (by rw [hzn]; exact hz))]
      unfold chgL
      rw [hzn, if_pos (.inr he)]
  have hs : ∀ (f : Int → Int) (z : Int), hasI (useK q.items baB ns q.items.length) z = true → z ≠ E.each → sayV f (lstO (chgV q ns E other) z) 0 = sayV f (lstO E z) 0 := fun f z hz he => by
    unfold lstO chgV
    dsimp only
    rw [chgE_len]
    split
    · rfl
    · rename_i h
      have hzn : (z.toNat : Int) = z := by omega
      rw [chgE_at _ _ _ _ _ z.toNat (by omega) (.inr (by rw [hzn]; exact hz))]
      unfold chgL
      rw [hzn]
      split
      · rfl
      exact say_take f _
  unfold nodeW
  split
  · rfl
  split
  · rename_i h1 h2
    obtain ⟨z, hz⟩ := hM (by omega) (by omega)
    rw [hz]
    show (true, ((lstO _ z).length : Int)) = (true, ((lstO _ z).length : Int))
    rw [hl z (hAg z hz (decide_eq_true (by omega)))]
  split
  · rename_i h1 h2 h3
    obtain ⟨z, hz⟩ := hM (by omega) (by omega)
    rw [hz]
    show menV _ _ _ z = menV _ _ _ z
    unfold menV
    have e1 : (chgV q ns E other).each = E.each := rfl
    have e2 : (chgV q ns E other).at_ = E.at_ := rfl
    rw [e1, e2]
    split
    · rename_i h4
      have hz4 := hBa z hz (decide_eq_true (.inl h4))
      by_cases he : z = E.each
      · rw [hb z hz4 he]
      · rw [if_neg he]
        exact hs _ z hz4 he
    · split
      · rename_i h4
        have hz4 := hBa z hz (decide_eq_true (.inr h4))
        split
        · rename_i he
          rw [hb z hz4 he]
        · rfl
      · rw [hl z (hAg z hz (decide_eq_true (by omega)))]
  · rfl
theorem frame_valK (hr : runB (itemF q.items q.items.length) ns = true) : ∀ k, k ≤ ns.length → valK L (itemF q.items q.items.length) (chgV q ns E other) ns k = valK L (itemF q.items q.items.length) E ns k
  | 0, _ => rfl
  | k + 1, h => by
    unfold valK
    rw [frame_valK hr k (by omega), frame_node L q ns E other hr _ (by omega)]
theorem frame_eval : evalV L q (chgV q ns E other) ns = evalV L q E ns := by
  unfold evalV
  split
  · rename_i hr
    have hpos : 0 < ns.length := by
      obtain ⟨_, _, h⟩ := tree_begs (by unfold runB at hr; rw [Bool.and_eq_true] at hr; exact hr.1)
      exact h
    unfold valA
    rw [frame_valK L q ns E other hr _ (by omega), frame_node L q ns E other hr _ (by omega)]
  · rfl
theorem frame_run : runV (cmpG L q ns) (chgV q ns E other) = runV (cmpG L q ns) E := by
  cases h : runB (itemF q.items q.items.length) ns with
  | true => rw [(cmpG_run L q _ h).2, (cmpG_run L q E h).2, frame_eval]
  | false =>
    rw [(cmpG_not L q E h).1]
    unfold runV
    rw [runW_end (by simp), runW_end (by simp)]
end

end Go.Proofs.YtnolbpekdikamaaGreatDoor
namespace Go.Proofs.YtnolbpekdikamaaGreatDoor
open Go.RowKit Go.BigFrame
set_option linter.unusedVariables false
set_option linter.unusedSimpArgs false

theorem hasI_take (l : List Int) (z : Int) (k : Nat) (h : k < l.length) : hasI (l.take (k + 1)) z = (hasI (l.take k) z || (l.getD k 0 == z)) := by
  unfold hasI
  rw [take_snoc l 0 k h, List.any_append]
  simp
theorem hasI_hit (l : List Int) (z : Int) (k : Nat) (h : k < l.length) (e : l.getD k 0 = z) : hasI l z = true := by
  rw [hasI_mem, ← e, List.getD_eq_getElem?_getD, List.getElem?_eq_getElem h]
  exact List.getElem_mem h
set_option maxRecDepth 100000 in
set_option maxHeartbeats 4000000 in
theorem has_any (l : List Int) (z : Int) (hl : l.length ≤ 9223372036854775807) (ao : Option Addr) (c : Nat) (w : World) (A : IsInts w ao l) :
    Calls Tryz.prog 10 #[.slice ao l.length c, .int .i64 z] w fun e w' => e = .returned (.bool (hasI l z)) ∧ w' = w := by
  obtain ⟨v, hv⟩ : ∃ v, hasI l z = v := ⟨_, rfl⟩
  rw [hv]
  go_enter Tryz.func10, Tryz.ntmps10
  go_wp2
  go_loopw [5] (fun x wr => (∃ k : Nat, k ≤ l.length ∧ x = .int .i64 k ∧ hasI (l.take k) z = false) ∧ wr = w) (fun x _ => l.length - (intOf x).toNat)
  case atStart => exact ⟨⟨0, Nat.zero_le _, rfl, rfl⟩, rfl⟩
  case round =>
    obtain ⟨⟨k, hk, rfl, hz⟩, rfl⟩ := hrel
    by_cases hlt : k < l.length
    · have hki : (k : Int) < (l.length : Int) := by omega
      have hst := hasI_take l z k hlt
      have hhit := hasI_hit l z k hlt
      obtain ⟨g1, o1, rfl, x0⟩ := A k hlt
      generalize l.getD k 0 = y at *
      rw [hz, Bool.false_or] at hst
      by_cases he : y = z
      · subst he
        have hvt := hv.symm.trans (hhit rfl)
        subst hvt
        clear hhit hst hz hv
        go_wp2
        go_ret
        exact ⟨rfl, rfl⟩
      · rw [show (y == z) = false from beq_eq_false_iff_ne.2 he] at hst
        clear hhit hz
        go_wp2
        go_roundw
        case rel => exact ⟨⟨k + 1, by omega, by go_num, hst⟩, by first | trivial | rfl⟩
        case measure => simp [intOf]; omega
    · obtain rfl : k = l.length := by omega
      rw [List.take_length] at hz
      have hvf := hv.symm.trans hz
      subst hvf
      clear A hv hz
      go_wp2
      go_ret
      exact ⟨rfl, rfl⟩
/-- A row of one's own whose lists lie elsewhere, in what was there. -/
structure Bor (w0 w : World) (b : Nat) (v : Value) (l : List (List Ev)) (ws : List Value) : Prop where
  len : ws.length = l.length
  own : w.ownsRow b 43 1 v l.length ws
  inn : ∀ j, j < l.length → ∃ a c, ws[j]? = some (.slice a (l.getD j []).length c) ∧ Flat w0 a (fl evC (l.getD j [])) ∧ Sl a (l.getD j []).length c
theorem Bor.nil (w0 w : World) (b : Nat) : Bor w0 w b (.slice none 0 0) [] [] := ⟨rfl, World.ownsRow_nil _ _ _ _, fun j hj => absurd hj (Nat.not_lt_zero _)⟩
theorem Bor.keep {w0 w u : World} {b : Nat} {v : Value} {l : List (List Ev)} {ws : List Value} (h : Bor w0 w b v l ws) (G : Below w.heap.size w u) : Bor w0 u b v l ws := ⟨h.len, own_keep h.own G, h.inn⟩
theorem Bor.nst {w0 w : World} {b : Nat} {ao : Option Addr} {c : Nat} {l : List (List Ev)} {ws : List Value} (h : Bor w0 w b (.slice ao l.length c) l ws) (G : Below w0.heap.size w0 w) : Nst w ao evC l := fun i hi => by
  obtain ⟨a, c', e, hf, hs⟩ := h.inn i hi
  rcases h.own.2 with ⟨h1, h2⟩ | ⟨g, c2, cur, h1, _, _, _, _⟩
  · omega
  · cases h1
    have := World.ownsRow.cellAt h.own i (by omega)
    exact ⟨g, 0, a, c', rfl, by rw [Nat.zero_add, this, e], hf.keep G, hs⟩
theorem Bor.snoc {w0 w u : World} {b : Nat} {v v' : Value} {l : List (List Ev)} {ws : List Value} (h : Bor w0 w b v l ws) (x : List Ev) (a : Option Addr) (c : Nat) (hf : Flat w0 a (fl evC x)) (hs : Sl a x.length c) (own' : u.ownsRow b 43 1 v' (l.length + 1) (ws ++ [.slice a x.length c])) : Bor w0 u b v' (l ++ [x]) (ws ++ [.slice a x.length c]) :=
  ⟨by simp [h.len], by simpa using own', fun j hj => by
    rw [getD_snoc]
    by_cases e : j < l.length
    · rw [if_pos e]
      obtain ⟨a', c', e1, h1, h2⟩ := h.inn j e
      exact ⟨a', c', by rw [List.getElem?_append_left (by rw [h.len]; exact e)]; exact e1, h1, h2⟩
    · have e2 : j = l.length := by simp at hj; omega
      rw [if_neg e, if_pos e2]
      exact ⟨a, c, by rw [List.getElem?_append_right (by rw [h.len]; omega), e2, h.len, Nat.sub_self]; rfl, hf, hs⟩⟩
theorem Bor.set {w0 w : World} {b g c' : Nat} {l : List (List Ev)} {ws : List Value} (h : Bor w0 w b (.slice (some ⟨g, 0, none⟩) l.length c') l ws) (i : Nat) (hi : i < l.length) (x : List Ev) (a : Option Addr) (c : Nat) (hf : Flat w0 a (fl evC x)) (hs : Sl a x.length c) : Bor w0 (w.setCell ⟨g, i, none⟩ (.slice a x.length c)) b (.slice (some ⟨g, 0, none⟩) l.length c') (l.set i x) (ws.set i (.slice a x.length c)) :=
  ⟨by simp [h.len], by
    have := own_setCells [.slice a x.length c] i w ws h.own
    rw [List.length_set]
    exact this, fun j hj => by
    rw [List.length_set] at hj
    by_cases e : i = j
    · subst e
      refine ⟨a, c, by rw [List.getElem?_set_self (by rw [h.len]; exact hi), List.getD_eq_getElem?_getD, List.getElem?_set_self hi]; rfl, ?_, ?_⟩
      · rw [List.getD_eq_getElem?_getD, List.getElem?_set_self hi]; exact hf
      · rw [List.getD_eq_getElem?_getD, List.getElem?_set_self hi]; exact hs
    · obtain ⟨a', c2, e1, h1, h2⟩ := h.inn j hj
      have hd : (l.set i x).getD j [] = l.getD j [] := by rw [List.getD_eq_getElem?_getD, List.getElem?_set_ne e, ← List.getD_eq_getElem?_getD]
      rw [hd]
      exact ⟨a', c2, by rw [List.getElem?_set_ne e]; exact e1, h1, h2⟩⟩

end Go.Proofs.YtnolbpekdikamaaGreatDoor
namespace Go.Proofs.YtnolbpekdikamaaGreatDoor
open Go.RowKit Go.BigFrame
set_option linter.unusedVariables false
set_option linter.unusedSimpArgs false

/-- The three lists, the result's place and the query's. -/
structure Us (base : Nat) (w X : World) (qc : Array Value) (L0 L1 L2 : List Int) (a0 : Option Addr) (c0 : Nat) (a1 : Option Addr) (c1 : Nat) (a2 : Option Addr) (c2 : Nat) : Prop where
  s : UseS base (w.heap.size + 1 + 1) X L0 L1 L2 a0 c0 a1 c1 a2 c2
  r : Bk X (w.heap.size + 1) #[.slice none 0 0, .slice none 0 0, .slice none 0 0] 41
  q : Bk X w.heap.size qc 31
  g : Below w.heap.size w X
  z : base ≤ X.heap.size
theorem Us.keep {base : Nat} {w X Y : World} {qc : Array Value} {L0 L1 L2 : List Int} {a0 : Option Addr} {c0 : Nat} {a1 : Option Addr} {c1 : Nat} {a2 : Option Addr} {c2 : Nat} (S : Us base w X qc L0 L1 L2 a0 c0 a1 c1 a2 c2) (G : Below X.heap.size X Y) : Us base w Y qc L0 L1 L2 a0 c0 a1 c1 a2 c2 := ⟨S.s.keep G, S.r.keep G, S.q.keep G, gtrans S.g G, Nat.le_trans S.z G.size⟩
theorem Us.app0 {base : Nat} {w X w1 : World} {qc : Array Value} {L0 L1 L2 : List Int} {a0 : Option Addr} {c0 : Nat} {a1 : Option Addr} {c1 : Nat} {a2 : Option Addr} {c2 : Nat} (S : Us base w X qc L0 L1 L2 a0 c0 a1 c1 a2 c2) (i : Int) {g c : Nat} (hown : w1.ownsRow base 3 1 (.slice (some ⟨g, 0, none⟩) (L0.length + 1) c) (L0.length + 1) (intsV L0 ++ [.int .i64 i])) (hgrow : (X.alloc (.cells #[.int .i64 i] 3)).grownBy w1 (Value.slice a0 L0.length c0).ownBlock) (hat : (Value.slice a0 L0.length c0).ownBlock = some g ∨ g = (X.alloc (.cells #[.int .i64 i] 3)).heap.size) :
    Us base w (w1.setCell ⟨w.heap.size + 1 + 1, 0, none⟩ (.slice (some ⟨g, 0, none⟩) (L0.length + 1) c)) qc (L0 ++ [i]) L1 L2 (some ⟨g, 0, none⟩) c a1 c1 a2 c2 ∧ Bk w1 (w.heap.size + 1 + 1) #[.slice a0 L0.length c0, .slice a1 L1.length c1, .slice a2 L2.length c2] 41 := by
  have E := galloc (Below.refl X.heap.size X) (.cells #[.int .i64 i] 3)
  have SE := S.s.keep E
  have hlt := S.s.lt
  have hz := S.z
  have hg := S.g.size
  have GW : Below w.heap.size w w1 := (gtrans S.g E).grown hgrow (by simp; omega) (fun r e => by have := (SE.o0.lt _ e).1; omega)
  refine ⟨⟨SE.app0 i hown hgrow hat, (bk_far (S.r.keep E) SE.o0 (by decide) hgrow).other (by omega) 0 _, (bk_far (S.q.keep E) SE.o0 (by decide) hgrow).other (by omega) 0 _, gset GW (p := ⟨w.heap.size + 1 + 1, 0, none⟩) (by dsimp only; omega) _, ?_⟩, bk_far SE.u SE.o0 (by decide) hgrow⟩
  have := hgrow.size
  simp at this ⊢
  omega
theorem Us.app1 {base : Nat} {w X w1 : World} {qc : Array Value} {L0 L1 L2 : List Int} {a0 : Option Addr} {c0 : Nat} {a1 : Option Addr} {c1 : Nat} {a2 : Option Addr} {c2 : Nat} (S : Us base w X qc L0 L1 L2 a0 c0 a1 c1 a2 c2) (i : Int) {g c : Nat} (hown : w1.ownsRow base 3 1 (.slice (some ⟨g, 0, none⟩) (L1.length + 1) c) (L1.length + 1) (intsV L1 ++ [.int .i64 i])) (hgrow : (X.alloc (.cells #[.int .i64 i] 3)).grownBy w1 (Value.slice a1 L1.length c1).ownBlock) (hat : (Value.slice a1 L1.length c1).ownBlock = some g ∨ g = (X.alloc (.cells #[.int .i64 i] 3)).heap.size) :
    Us base w (w1.setCell ⟨w.heap.size + 1 + 1, 1, none⟩ (.slice (some ⟨g, 0, none⟩) (L1.length + 1) c)) qc L0 (L1 ++ [i]) L2 a0 c0 (some ⟨g, 0, none⟩) c a2 c2 ∧ Bk w1 (w.heap.size + 1 + 1) #[.slice a0 L0.length c0, .slice a1 L1.length c1, .slice a2 L2.length c2] 41 := by
  have E := galloc (Below.refl X.heap.size X) (.cells #[.int .i64 i] 3)
  have SE := S.s.keep E
  have hlt := S.s.lt
  have hz := S.z
  have hg := S.g.size
  have GW : Below w.heap.size w w1 := (gtrans S.g E).grown hgrow (by simp; omega) (fun r e => by have := (SE.o1.lt _ e).1; omega)
  refine ⟨⟨SE.app1 i hown hgrow hat, (bk_far (S.r.keep E) SE.o1 (by decide) hgrow).other (by omega) 1 _, (bk_far (S.q.keep E) SE.o1 (by decide) hgrow).other (by omega) 1 _, gset GW (p := ⟨w.heap.size + 1 + 1, 1, none⟩) (by dsimp only; omega) _, ?_⟩, bk_far SE.u SE.o1 (by decide) hgrow⟩
  have := hgrow.size
  simp at this ⊢
  omega
theorem Us.app2 {base : Nat} {w X w1 : World} {qc : Array Value} {L0 L1 L2 : List Int} {a0 : Option Addr} {c0 : Nat} {a1 : Option Addr} {c1 : Nat} {a2 : Option Addr} {c2 : Nat} (S : Us base w X qc L0 L1 L2 a0 c0 a1 c1 a2 c2) (i : Int) {g c : Nat} (hown : w1.ownsRow base 3 1 (.slice (some ⟨g, 0, none⟩) (L2.length + 1) c) (L2.length + 1) (intsV L2 ++ [.int .i64 i])) (hgrow : (X.alloc (.cells #[.int .i64 i] 3)).grownBy w1 (Value.slice a2 L2.length c2).ownBlock) (hat : (Value.slice a2 L2.length c2).ownBlock = some g ∨ g = (X.alloc (.cells #[.int .i64 i] 3)).heap.size) :
    Us base w (w1.setCell ⟨w.heap.size + 1 + 1, 2, none⟩ (.slice (some ⟨g, 0, none⟩) (L2.length + 1) c)) qc L0 L1 (L2 ++ [i]) a0 c0 a1 c1 (some ⟨g, 0, none⟩) c ∧ Bk w1 (w.heap.size + 1 + 1) #[.slice a0 L0.length c0, .slice a1 L1.length c1, .slice a2 L2.length c2] 41 := by
  have E := galloc (Below.refl X.heap.size X) (.cells #[.int .i64 i] 3)
  have SE := S.s.keep E
  have hlt := S.s.lt
  have hz := S.z
  have hg := S.g.size
  have GW : Below w.heap.size w w1 := (gtrans S.g E).grown hgrow (by simp; omega) (fun r e => by have := (SE.o2.lt _ e).1; omega)
  refine ⟨⟨SE.app2 i hown hgrow hat, (bk_far (S.r.keep E) SE.o2 (by decide) hgrow).other (by omega) 2 _, (bk_far (S.q.keep E) SE.o2 (by decide) hgrow).other (by omega) 2 _, gset GW (p := ⟨w.heap.size + 1 + 1, 2, none⟩) (by dsimp only; omega) _, ?_⟩, bk_far SE.u SE.o2 (by decide) hgrow⟩
  have := hgrow.size
  simp at this ⊢
  omega
/-- How far the lists are. -/
structure UsR (base : Nat) (w : World) (q : Qy) (qc : Array Value) (ns : List Nd) (x : Value) (X : World) : Prop where
  ex : ∃ (k : Nat) (a0 : Option Addr) (c0 : Nat) (a1 : Option Addr) (c1 : Nat) (a2 : Option Addr) (c2 : Nat), k ≤ q.items.length ∧ x = .int .i64 k ∧ Us base w X qc (useK q.items baB ns k) (useK q.items (· == 11) ns k) (useK q.items agB ns k) a0 c0 a1 c1 a2 c2
end Go.Proofs.YtnolbpekdikamaaGreatDoor
namespace Go.Proofs.YtnolbpekdikamaaGreatDoor
open Go.RowKit Go.BigFrame
set_option linter.unusedVariables false
set_option linter.unusedSimpArgs false

theorem nds_len : ∀ ns : List Nd, (ndsV ns).length = ns.length * 6
  | [] => rfl
  | n :: t => by
    show ((ndA n).toList ++ ndsV t).length = _
    rw [List.length_append, nds_len t, List.length_cons, show (ndA n).toList.length = 6 from rfl]
    omega
theorem nds_cells {w : World} {ad : Addr} {ns : List Nd} (A : IsNds w (some ad) ns) (j : Nat) (u : Value) (hj : (ndsV ns)[j]? = some u) : w.cell? (ad.add j) = some u := by
  have hjl := (List.getElem?_eq_some_iff.1 hj).1
  rw [nds_len] at hjl
  obtain ⟨q, r, rfl, hr⟩ : ∃ q r, j = q * 6 + r ∧ r < 6 := ⟨j / 6, j % 6, by omega, by omega⟩
  rw [nds_at ns q (by omega) r hr] at hj
  obtain ⟨g, off, e, c0, c1, c2, c3, c4, c5⟩ := A q (by omega)
  cases e
  rw [Go.WideShapes.add_plain]
  rcases (show r = 0 ∨ r = 1 ∨ r = 2 ∨ r = 3 ∨ r = 4 ∨ r = 5 from by omega) with rfl | rfl | rfl | rfl | rfl | rfl
  · rw [← Nat.add_assoc, Nat.add_zero, c0, ← hj]; rfl
  · rw [← Nat.add_assoc, c1, ← hj]; rfl
  · rw [← Nat.add_assoc, c2, ← hj]; rfl
  · rw [← Nat.add_assoc, c3, ← hj]; rfl
  · rw [← Nat.add_assoc, c4, ← hj]; rfl
  · rw [← Nat.add_assoc, c5, ← hj]; rfl
theorem nds_ones (ns : List Nd) : ∀ u ∈ ndsV ns, u.oneCell' = true := by
  intro u hu
  unfold ndsV at hu
  obtain ⟨y, _, hy⟩ := List.mem_flatMap.1 hu
  exact nd_one y u hy
theorem nds_set : ∀ (ns : List Nd) (k j : Nat), k < ns.length → j < 6 → ∀ (u : Value) (n' : Nd), (ndA (ns.getD k noNd)).toList.set j u = (ndA n').toList → (ndsV ns).set (k * 6 + j) u = ndsV (ns.set k n')
  | [], k, j, hk, _, _, _, _ => by simp at hk
  | n :: t, 0, j, _, hj, u, n', h => by
    show ((ndA n).toList ++ ndsV t).set (0 * 6 + j) u = (ndA n').toList ++ ndsV t
    rw [Nat.zero_mul, Nat.zero_add, List.set_append_left _ _ (show j < (ndA n).toList.length from hj)]
    rw [show (ndA n).toList.set j u = (ndA n').toList from h]
  | n :: t, k + 1, j, hk, hj, u, n', h => by
    have hlen : (ndA n).toList.length = 6 := rfl
    show ((ndA n).toList ++ ndsV t).set ((k + 1) * 6 + j) u = (ndA n).toList ++ ndsV (t.set k n')
    rw [List.set_append_right _ _ (by omega), hlen, show (k + 1) * 6 + j - 6 = k * 6 + j by omega, nds_set t k j (by simpa using hk) hj u n' h]
/-- append of a whole row of nodes onto a row of one's own. -/
theorem wpList_append_nds {w : World} {ops : Array Oper} {rest : List Oper} {o : Oper} {a : Act} {Q : Exit → Act → World → Prop} (hgd : o.guard = none) (s x : Operand)
    (ho : o.op = .call { callee := .builtin .append, args := #[s, x], argTypes := #[28, 28] }) (v : Value) (base n : Nat) (xs : List Value) (hs : a.eval s = v) (O : w.ownsRow base 64 6 v n xs) (hb : base ≤ w.heap.size)
    (ao : Option Addr) (cap : Nat) (ts : List Nd) (hx : a.eval x = .slice ao ts.length cap) (hnone : ao = none → ts.length = 0 ∧ cap = 0) (A : IsNds w ao ts) (hl : (n + ts.length) * 64 ≤ 140737488351232)
    (h : ∀ v' w', w'.ownsRow base 64 6 v' (n + ts.length) (xs ++ ndsV ts) → w.grownBy w' v.ownBlock → wpList Tryz.prog ops Q rest (a.put o.dst v') w') : wpList Tryz.prog ops Q (o :: rest) a w := by
  obtain ⟨i3, ti, tz0, tz1, tz2⟩ := of_info nd_info
  have hlen := nds_len ts
  cases ao with
  | none =>
    obtain ⟨h0, rfl⟩ := hnone rfl
    refine wpList_plain hgd fun K hK' => ?_
    have hrun := run_append_owned_none (P := Tryz.prog) w base 28 o.type 64 i3 6 Tryz.underlying28 ti v n xs O
    have hts : ts = [] := List.length_eq_zero_iff.1 h0
    subst hts
    replace hx : a.eval x = .slice none 0 0 := hx
    unfold Oper.wp
    simp [execOp, ho, resolve, invoke, builtin, hs, hx, hrun, Result.andThen]
    refine hK' _ _ (h _ _ ?_ (World.grownBy.refl _ _))
    rw [show ndsV [] = [] from rfl, List.append_nil]
    exact O
  | some ad =>
    exact wpList_append_own (w := w) hgd s x 28 ho base 64 i3 (.agg (ndA noNd)) 6 64 Tryz.underlying28 ti tz0 tz1 tz2 rfl (by decide) v n xs hs O ad ts.length cap (ndsV ts) hx hlen (nds_cells A) (nds_ones ts) (by unfold maxLen; omega) (by omega) hb (fun v' w' h1 h2 _ => h v' w' h1 h2)
theorem nds_sub {w : World} {g o : Nat} {ns : List Nd} (A : IsNds w (some ⟨g, o, none⟩) ns) (f m : Nat) (h : f + m ≤ ns.length) : IsNds w (some ⟨g, o + f * 6, none⟩) ((ns.drop f).take m) := fun i hi => by
  have hi' : i < m := by simp at hi; omega
  obtain ⟨g', o', e, c0, c1, c2, c3, c4, c5⟩ := A (f + i) (by omega)
  cases e
  have hget : ((ns.drop f).take m).getD i noNd = ns.getD (f + i) noNd := by
    rw [List.getD_eq_getElem?_getD, List.getD_eq_getElem?_getD, List.getElem?_take, if_pos hi', List.getElem?_drop]
  rw [hget]
  refine ⟨g, o + f * 6, rfl, ?_⟩
  rw [show o + f * 6 + i * 6 = o + (f + i) * 6 by omega]
  exact ⟨c0, c1, c2, c3, c4, c5⟩
end Go.Proofs.YtnolbpekdikamaaGreatDoor
namespace Go.Proofs.YtnolbpekdikamaaGreatDoor
open Go.RowKit Go.BigFrame
set_option linter.unusedVariables false
set_option linter.unusedSimpArgs false

def ssV (l : List ByteArray) : List Value := l.map Value.string
theorem nf_str : (Tryz.prog.info? 9).map (fun i => (i.zero, i.size, i.bytes)) = some (some (.string ⟨#[]⟩), 1, 16) := by kernel_rfl
theorem ss_at (zs : List ByteArray) (j : Nat) (u : Value) (h : (ssV zs)[j]? = some u) : j < zs.length ∧ u = .string (zs.getD j eS) := by
  have hj := (List.getElem?_eq_some_iff.1 h).1
  rw [show (ssV zs).length = zs.length by simp [ssV]] at hj
  refine ⟨hj, ?_⟩
  unfold ssV at h
  rw [List.getElem?_map, List.getElem?_eq_getElem hj] at h
  simp only [Option.map_some, Option.some.injEq] at h
  rw [← h, List.getD_eq_getElem?_getD, List.getElem?_eq_getElem hj]
  rfl
/-- append of a whole row of strings onto a row of one's own. -/
theorem wpList_append_ss {w : World} {ops : Array Oper} {rest : List Oper} {o : Oper} {a : Act} {Q : Exit → Act → World → Prop} (hgd : o.guard = none) (s x : Operand)
    (ho : o.op = .call { callee := .builtin .append, args := #[s, x], argTypes := #[65, 65] }) (v : Value) (base n : Nat) (xs : List Value) (hs : a.eval s = v) (O : w.ownsRow base 9 1 v n xs) (hb : base ≤ w.heap.size)
    (ao : Option Addr) (cap : Nat) (ts : List ByteArray) (hx : a.eval x = .slice ao ts.length cap) (hsl : Sl ao ts.length cap) (A : IsSs w ao ts) (hl : (n + ts.length) * 16 ≤ 140737488351232)
    (h : ∀ v' w', w'.ownsRow base 9 1 v' (n + ts.length) (xs ++ ssV ts) → w.grownBy w' v.ownBlock → wpList Tryz.prog ops Q rest (a.put o.dst v') w') : wpList Tryz.prog ops Q (o :: rest) a w := by
  obtain ⟨i3, ti, tz0, tz1, tz2⟩ := nf_info nf_str
  have hlen : (ssV ts).length = ts.length := by simp [ssV]
  cases ao with
  | none =>
    obtain ⟨h0, rfl⟩ := hsl.2 rfl
    refine wpList_plain hgd fun K hK' => ?_
    have hrun := run_append_owned_none (P := Tryz.prog) w base 65 o.type 9 i3 1 Tryz.underlying65 ti v n xs O
    have hts : ts = [] := List.length_eq_zero_iff.1 h0
    subst hts
    replace hx : a.eval x = .slice none 0 0 := hx
    unfold Oper.wp
    simp [execOp, ho, resolve, invoke, builtin, hs, hx, hrun, Result.andThen]
    refine hK' _ _ (h _ _ ?_ (World.grownBy.refl _ _))
    rw [show ssV [] = [] from rfl, List.append_nil]
    exact O
  | some ad =>
    refine wpList_append_own (w := w) hgd s x 65 ho base 9 i3 (.string ⟨#[]⟩) 1 16 Tryz.underlying65 ti tz0 tz1 tz2 rfl (by decide) v n xs hs O ad ts.length cap (ssV ts) hx (by rw [hlen, Nat.mul_one]) (fun j u hj => ?_) (fun u hu => ?_) (by unfold maxLen; omega) (by omega) hb (fun v' w' h1 h2 _ => h v' w' h1 h2)
    · obtain ⟨hj2, rfl⟩ := ss_at ts j u hj
      obtain ⟨g, off, e, c0⟩ := A j hj2
      cases e
      rw [Go.WideShapes.add_plain]
      exact c0
    · unfold ssV at hu
      obtain ⟨z, _, rfl⟩ := List.mem_map.1 hu
      rfl
theorem own_ss {w : World} {b : Nat} {ao : Option Addr} {c : Nat} {zs : List ByteArray} (h : w.ownsRow b 9 1 (.slice ao zs.length c) zs.length (ssV zs)) : IsSs w ao zs := fun i hi => by
  rcases h.2 with ⟨h1, h2⟩ | ⟨g, c', cur, h1, _, _, _, _⟩
  · omega
  · cases h1
    refine ⟨g, 0, rfl, ?_⟩
    rw [Nat.zero_add, World.ownsRow.cellAt h i (by omega)]
    simp [ssV, List.getD, List.getElem?_eq_getElem hi]
theorem nf_it : (Tryz.prog.info? 69).map (fun i => (i.zero, i.size, i.bytes)) = some (some (.agg #[.bool false, .slice none 0 0, .string ⟨#[]⟩, .int .i64 0, .int .i64 0]), 5, 64) := by kernel_rfl
theorem nf_nds : (Tryz.prog.info? 28).map (fun i => (i.zero, i.size, i.bytes)) = some (some (.slice none 0 0), 1, 24) := by kernel_rfl
/-- The cells of an item whose types lie at a. -/
def itC (i : It) (a : Option Addr) (c : Nat) : Array Value := #[.bool i.neg, .slice a i.ty.length c, .string i.v, .int .i64 i.lo, .int .i64 i.hi]
theorem it_newE {w : World} {g : Nat} (hg : g = w.heap.size) (i : It) (a : Option Addr) (c : Nat) (j : Nat) (u : Value) (h : (itC i a c).toList[j]? = some u) : (w.alloc (.cells (itC i a c) 69)).cell? ((⟨g, 0, none⟩ : Addr).add j) = some u := by
  subst hg
  rw [Go.WideShapes.add_plain, Nat.zero_add, World.cell?_alloc_new]
  simpa using h
theorem it_one (i : It) (a : Option Addr) (c : Nat) : ∀ u ∈ (itC i a c).toList, u.oneCell' = true := by
  intro u hu
  simp [itC] at hu
  rcases hu with rfl | rfl | rfl | rfl | rfl <;> rfl
/-- A row of items of one's own as it is read. -/
theorem own_its {w : World} {b b' : Nat} {ao : Option Addr} {c : Nat} {l : List It} {vs : List Value} (h : w.ownsRow b 69 5 (.slice ao l.length c) l.length vs) (hin : ∀ j, j < l.length → ∃ a c', (∀ r, r < 5 → vs[j * 5 + r]? = (itC (l.getD j noIt) a c').toList[r]?) ∧ w.ownsRow b' 9 1 (.slice a (l.getD j noIt).ty.length c') (l.getD j noIt).ty.length (ssV (l.getD j noIt).ty)) : IsIts w ao l := fun i hi => by
  obtain ⟨a, c', e, O⟩ := hin i hi
  rcases h.2 with ⟨h1, h2⟩ | ⟨g, c2, cur, h1, _, _, _, _⟩
  · omega
  · cases h1
    have hc : ∀ r, r < 5 → w.cell? ⟨g, i * 5 + r, none⟩ = (itC (l.getD i noIt) a c').toList[r]? := fun r hr => by rw [World.ownsRow.cellAt h (i * 5 + r) (by omega), e r hr]
    refine ⟨g, 0, rfl, a, c', ?_⟩
    rw [Nat.zero_add]
    exact ⟨hc 0 (by omega), hc 1 (by omega), hc 2 (by omega), hc 3 (by omega), hc 4 (by omega), own_ss O, own_sl O⟩
theorem own_nss {w : World} {b b' : Nat} {ao : Option Addr} {c : Nat} {l : List (List Nd)} {vs : List Value} (h : w.ownsRow b 28 1 (.slice ao l.length c) l.length vs) (hin : ∀ j, j < l.length → ∃ a c', vs[j]? = some (.slice a (l.getD j []).length c') ∧ w.ownsRow b' 64 6 (.slice a (l.getD j []).length c') (l.getD j []).length (ndsV (l.getD j []))) : IsNss w ao l := fun i hi => by
  obtain ⟨a, c', e, O⟩ := hin i hi
  rcases h.2 with ⟨h1, h2⟩ | ⟨g, c2, cur, h1, _, _, _, _⟩
  · omega
  · cases h1
    refine ⟨g, 0, a, c', rfl, ?_, nds_of_own O, own_sl O⟩
    rw [Nat.zero_add, World.ownsRow.cellAt h i (by omega)]
    exact e
structure QLoop1 (q : Qy) (w : World) (zz : Nat) (ai : Option Addr) (ci : Nat) (aw : Option Addr) (cw : Nat) (ar : Option Addr) (cr : Nat) (x : Value) (wr : World) : Prop where
  ex : ∃ (k : Nat) (vs : List Value) (o : Option Addr) (oc : Nat), k ≤ q.items.length ∧ x = .int .i64 k ∧ Bk wr w.heap.size #[.slice ai q.items.length ci, .int .i64 q.mode, .int .i64 q.after, .slice aw q.wh.length cw, .int .i64 q.within, .string q.by_, .slice ar q.ret.length cr] 31 ∧ Bk wr (w.heap.size + 1) #[.slice none 0 0, .int .i64 0, .int .i64 0, .slice none 0 0, .int .i64 0, .string ⟨#[]⟩, .slice none 0 0] 31 ∧ Bk wr (w.heap.size + 1 + 1) #[.slice o k oc, .int .i64 q.mode, .int .i64 q.after, .slice aw q.wh.length cw, .int .i64 q.within, .string q.by_, .slice ar q.ret.length cr] 31 ∧
    vs.length = k * 5 ∧ wr.ownsRow zz 69 5 (.slice o k oc) k vs ∧ (∀ j, j < k → ∃ a c', (∀ r, r < 5 → vs[j * 5 + r]? = (itC (q.items.getD j noIt) a c').toList[r]?) ∧ wr.ownsRow w.heap.size 9 1 (.slice a (q.items.getD j noIt).ty.length c') (q.items.getD j noIt).ty.length (ssV (q.items.getD j noIt).ty)) ∧ zz ≤ wr.heap.size ∧ Below w.heap.size w wr
/-- The items' copy. -/
structure ItsO (q : Qy) (w : World) (zz : Nat) (oi : Option Addr) (ic : Nat) (vi : List Value) (wr : World) : Prop where
  own : wr.ownsRow zz 69 5 (.slice oi q.items.length ic) q.items.length vi
  inn : ∀ j, j < q.items.length → ∃ a c', (∀ r, r < 5 → vi[j * 5 + r]? = (itC (q.items.getD j noIt) a c').toList[r]?) ∧ wr.ownsRow w.heap.size 9 1 (.slice a (q.items.getD j noIt).ty.length c') (q.items.getD j noIt).ty.length (ssV (q.items.getD j noIt).ty)
theorem ItsO.map {q : Qy} {w : World} {zz : Nat} {oi : Option Addr} {ic : Nat} {vi : List Value} {wr wr' : World} (h : ItsO q w zz oi ic vi wr) (f : ∀ (e : TypeId) (b s : Nat) (v : Value) (n : Nat) (xs : List Value), (e = 69 ∨ e = 9) → wr.ownsRow b e s v n xs → wr'.ownsRow b e s v n xs) : ItsO q w zz oi ic vi wr' :=
  ⟨f _ _ _ _ _ _ (.inl rfl) h.own, fun j hj => by
    obtain ⟨a, c, h1, h2⟩ := h.inn j hj
    exact ⟨a, c, h1, f _ _ _ _ _ _ (.inr rfl) h2⟩⟩
structure QLoop2 (q : Qy) (w : World) (zz z2 : Nat) (oi : Option Addr) (ic : Nat) (vi : List Value) (a2 : Option Addr) (k2 : Nat) (ai : Option Addr) (ci : Nat) (aw : Option Addr) (cw : Nat) (ar : Option Addr) (cr : Nat) (x : Value) (wr : World) : Prop where
  ex : ∃ (k : Nat) (vs : List Value) (o : Option Addr) (oc : Nat), k ≤ q.ret.length ∧ x = .int .i64 k ∧ Bk wr w.heap.size #[.slice ai q.items.length ci, .int .i64 q.mode, .int .i64 q.after, .slice aw q.wh.length cw, .int .i64 q.within, .string q.by_, .slice ar q.ret.length cr] 31 ∧ Bk wr (w.heap.size + 1) #[.slice none 0 0, .int .i64 0, .int .i64 0, .slice none 0 0, .int .i64 0, .string ⟨#[]⟩, .slice none 0 0] 31 ∧ Bk wr (w.heap.size + 1 + 1) #[.slice oi q.items.length ic, .int .i64 q.mode, .int .i64 q.after, .slice a2 q.wh.length k2, .int .i64 q.within, .string q.by_, .slice o k oc] 31 ∧ ItsO q w zz oi ic vi wr ∧ wr.ownsRow w.heap.size 64 6 (.slice a2 q.wh.length k2) q.wh.length (ndsV q.wh) ∧
    vs.length = k ∧ wr.ownsRow z2 28 1 (.slice o k oc) k vs ∧ (∀ j, j < k → ∃ a c', vs[j]? = some (.slice a (q.ret.getD j []).length c') ∧ wr.ownsRow w.heap.size 64 6 (.slice a (q.ret.getD j []).length c') (q.ret.getD j []).length (ndsV (q.ret.getD j []))) ∧ z2 ≤ wr.heap.size ∧ Below w.heap.size w wr
end Go.Proofs.YtnolbpekdikamaaGreatDoor
namespace Go.Proofs.YtnolbpekdikamaaGreatDoor
open Go.RowKit Go.BigFrame
set_option linter.unusedVariables false
set_option linter.unusedSimpArgs false

/-- Three lists of numbers in memory. -/
structure UseAt (w : World) (cs : Array Value) (L0 L1 L2 : List Int) : Prop where
  ex : ∃ a1 c1 a2 c2 a3 c3, cs = #[.slice a1 L0.length c1, .slice a2 L1.length c2, .slice a3 L2.length c3] ∧ IsInts w a1 L0 ∧ IsInts w a2 L1 ∧ IsInts w a3 L2
theorem UseAt.keep {w u : World} {cs : Array Value} {L0 L1 L2 : List Int} (h : UseAt w cs L0 L1 L2) (G : Below w.heap.size w u) : UseAt u cs L0 L1 L2 := by
  obtain ⟨⟨a1, c1, a2, c2, a3, c3, h1, h2, h3, h4⟩⟩ := h
  exact ⟨⟨a1, c1, a2, c2, a3, c3, h1, h2.keep G, h3.keep G, h4.keep G⟩⟩
set_option maxRecDepth 100000 in
set_option maxHeartbeats 8000000 in
theorem uses_any (q : Qy) (hq : q.fit) (ns : List Nd) (hr : ns.length * 64 ≤ 140737488351232) (hf : ∀ k, (ns.getD k noNd).fit) (cs : Array Value) (ai : Option Addr) (ci : Nat) (aw : Option Addr) (cw : Nat) (ar : Option Addr) (cr : Nat) (ao : Option Addr) (cap : Nat) (w : World) (A : IsQ w q cs ai ci aw cw ar cr) (N : IsNds w ao ns) :
    Calls Tryz.prog 9 #[.agg cs, .slice ao ns.length cap] w fun e w' => ∃ cu, e = .returned (.agg cu) ∧ UseAt w' cu (useK q.items baB ns q.items.length) (useK q.items (· == 11) ns q.items.length) (useK q.items agB ns q.items.length) ∧ Below w.heap.size w w' := by
  have cI := fun (u : World) (G : Below w.heap.size w u) => itemsOf_any q hq cs ai ci aw cw ar cr u (A.keep G)
  have cU := fun (u : World) (G : Below w.heap.size w u) (bm : Nat) (MP : MpAt u bm q.items.length (itemF q.items q.items.length)) => usesOf_any (itemF q.items q.items.length) bm q.items.length ns hr hf ao cap u (N.keep G) MP
  rw [← useK_eq, ← useK_eq, ← useK_eq] at cU
  generalize useK q.items baB ns q.items.length = L0 at *
  generalize useK q.items (· == 11) ns q.items.length = L1 at *
  generalize useK q.items agB ns q.items.length = L2 at *
  obtain ⟨he, _⟩ := A
  subst he
  have B0 := galloc (galloc (Below.refl w.heap.size w) (.cells #[.slice ai q.items.length ci, .int .i64 q.mode, .int .i64 q.after, .slice aw q.wh.length cw, .int .i64 q.within, .string q.by_, .slice ar q.ret.length cr] 31)) (.cells #[.slice none 0 0, .slice none 0 0, .slice none 0 0] 41)
  have R0 := Bk.newE (w := w.alloc (.cells #[.slice ai q.items.length ci, .int .i64 q.mode, .int .i64 q.after, .slice aw q.wh.length cw, .int .i64 q.within, .string q.by_, .slice ar q.ret.length cr] 31)) (g := w.heap.size + 1) (by simp) #[.slice none 0 0, .slice none 0 0, .slice none 0 0] 41
  go_enter Tryz.func9, Tryz.ntmps9
  go_wp2_with (first
    | (go_at_call 21; (with_reducible refine (cI _ B0).mono ?_); rintro e u1 ⟨bm, rfl, _, MP, g1⟩; have G1 := gtrans B0 g1; have R1 := R0.keep g1)
    | (go_at_call 20; (with_reducible refine (cU _ G1 _ MP).mono ?_); rintro e u2 ⟨a1, c1, a2, c2, a3, c3, rfl, T0, T1, T2, g2⟩; have G2 := gtrans G1 g2; have R2 := R1.keep g2; obtain ⟨v0, v1, v2⟩ := R2.at3; have w0 := R2.free 0; have w1 := R2.free 1; have w2 := R2.free 2; have RE' : Bk (((u2.setCell ⟨w.heap.size + 1, 0, none⟩ (.slice a1 L0.length c1)).setCell ⟨w.heap.size + 1, 1, none⟩ (.slice a2 L1.length c2)).setCell ⟨w.heap.size + 1, 2, none⟩ (.slice a3 L2.length c3)) (w.heap.size + 1) #[.slice a1 L0.length c1, .slice a2 L1.length c2, .slice a3 L2.length c3] 41 := ((R2.set 0 (.slice a1 L0.length c1)).set 1 (.slice a2 L1.length c2)).set 2 (.slice a3 L2.length c3); obtain ⟨m0, m1, m2⟩ := RE'.at3))
  have BE := (((But.refl (w.heap.size + 1) u2).set 0 (.slice a1 L0.length c1)).set 1 (.slice a2 L1.length c2)).set 2 (.slice a3 L2.length c3)
  have GE := gset (gset (gset G2 (p := ⟨w.heap.size + 1, 0, none⟩) (by dsimp only; omega) (.slice a1 L0.length c1)) (p := ⟨w.heap.size + 1, 1, none⟩) (by dsimp only; omega) (.slice a2 L1.length c2)) (p := ⟨w.heap.size + 1, 2, none⟩) (by dsimp only; omega) (.slice a3 L2.length c3)
  exact bodyPost_ret (v := .agg #[.slice a1 L0.length c1, .slice a2 L1.length c2, .slice a3 L2.length c3]) (by simp [results, Tryz.results9, go_sem, m0, m1, m2]) rfl ⟨_, rfl, ⟨⟨a1, c1, a2, c2, a3, c3, rfl, own_ints (own_but T0 R2 (by decide) BE), own_ints (own_but T1 R2 (by decide) BE), own_ints (own_but T2 R2 (by decide) BE)⟩⟩, GE⟩
end Go.Proofs.YtnolbpekdikamaaGreatDoor
