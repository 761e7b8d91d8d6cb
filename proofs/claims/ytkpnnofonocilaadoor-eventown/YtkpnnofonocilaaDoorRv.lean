/- An event's line is read as the event. -/
import Derived.Test.YtkpnnofonocilaaDoorRt2
import Derived.Test.YtkpnnofonocilaaDoorWe2
import Derived.Test.YtkpnnofonocilaaDoorNv
import Derived.Test.YtkpnnofonocilaaDoorLine3
import Derived.Test.YtkpnnofonocilaaDoorText2
namespace Go.Proofs.YtkpnnofonocilaaDoor
open Go.RowKit Go.BigFrame
set_option linter.unusedVariables false
set_option linter.unusedSimpArgs false

def gB (c : UInt8) : Bool := gapB (bI c)
def ngb (c : UInt8) : Bool := ngB (bI c)
theorem take_gap (g w z : List UInt8) (f : UInt8 → Bool) (hg : ∀ c ∈ g, f c = true) (hz : ∀ c r, w = c :: r → f c = false) (h0 : w = [] → z = []) : ((g ++ w ++ z).takeWhile f) = g ∧ ((g ++ w ++ z).dropWhile f) = w ++ z := by
  induction g with
  | nil =>
    cases w with
    | nil => rw [h0 rfl]; exact ⟨rfl, rfl⟩
    | cons c r =>
      have := hz c r rfl
      exact ⟨List.takeWhile_cons_of_neg (by rw [this]; decide), List.dropWhile_cons_of_neg (by rw [this]; decide)⟩
  | cons c g ih =>
    obtain ⟨i1, i2⟩ := ih (fun d hd => hg d (by simp [hd]))
    have hc := hg c (by simp)
    rw [List.cons_append, List.cons_append, List.takeWhile_cons_of_pos hc, List.dropWhile_cons_of_pos hc, i1, i2]
    exact ⟨rfl, rfl⟩
/-- The word behind some gaps. -/
theorem word_at (p g w z : List UInt8) (s : ByteArray) (hs : s.data.toList = p ++ (g ++ w ++ z)) (hg : ∀ c ∈ g, gB c = true) (hw0 : w ≠ []) (hw : ∀ c ∈ w, gB c = false) (hz : ∀ c r, z = c :: r → gB c = true) :
    wA s p.length = p.length + g.length ∧ wE s p.length = p.length + g.length + w.length ∧ wd s p.length = ⟨w.toArray⟩ ∧ wA s p.length < s.size := by
  have hl : s.data.toList.length = s.size := Array.length_toList
  have hn : s.size = p.length + (g.length + w.length + z.length) := by rw [← hl, hs]; simp; omega
  have hwl : 0 < w.length := List.length_pos_iff.2 hw0
  have d1 : s.data.toList.drop p.length = g ++ w ++ z := by rw [hs]; simp
  have s1 := scan_len gapB gB (fun c => rfl) s s.size p.length (by omega) (by omega)
  obtain ⟨t1, t2⟩ := take_gap g w z gB hg (fun c r e => hw c (by rw [e]; simp)) (fun e => absurd e hw0)
  rw [d1, t1, t2] at s1
  have a1 : wA s p.length = p.length + g.length := s1.1
  have s2 := scan_len ngB ngb (fun c => rfl) s s.size (p.length + g.length) (by omega) (by omega)
  have d2 : s.data.toList.drop (p.length + g.length) = w ++ z := by rw [← a1]; exact s1.2
  have t3 : (w ++ z ++ []).takeWhile ngb = w ∧ (w ++ z ++ []).dropWhile ngb = z ++ [] := take_gap w z [] ngb (fun c hc => by
    show (!(gB c)) = true
    rw [hw c hc]; rfl) (fun c r e => by
    show (!(gB c)) = false
    rw [hz c r e]; rfl) (fun _ => rfl)
  rw [List.append_nil, List.append_nil] at t3
  rw [d2, t3.1] at s2
  have a2 : wE s p.length = p.length + g.length + w.length := by
    unfold wE
    rw [a1]
    exact s2.1
  refine ⟨a1, a2, ?_, by rw [a1]; omega⟩
  unfold wd
  rw [a1, a2]
  apply ByteArray.ext
  apply Array.toList_inj.1
  simp only [ByteArray.data_extract, Array.toList_extract, List.extract, d2]
  rw [show p.length + g.length + w.length - (p.length + g.length) = w.length by omega, List.take_left']
  rfl
/-- Nothing stands behind. -/
theorem word_end (s : ByteArray) (k : Nat) (h : s.size ≤ k) : ¬ wA s k < s.size := by
  have := scan_ge gapB s s.size k
  show ¬ scan gapB s s.size k < s.size
  omega

theorem dec_ne (u : Nat) : Lib.decDigits u ≠ [] := by
  unfold Lib.decDigits
  split
  · simp
  · simp
theorem dec_dig (u : Nat) : digL (Lib.decDigits u) ∧ dv 0 (Lib.decDigits u) = u := by
  induction u using Nat.strongRecOn with
  | _ u ih =>
    unfold Lib.decDigits
    have one : ∀ k, k < 10 → (UInt8.ofNat (48 + k)).toNat = 48 + k := fun k hk => by rw [UInt8.toNat_ofNat']; omega
    split
    · rename_i h
      refine ⟨fun c hc => ?_, ?_⟩
      · have : c = UInt8.ofNat (48 + u) := by simpa using hc
        rw [this, one u h]
        omega
      · rw [dv_cons, one u h, dv_nil]
        omega
    · rename_i h
      obtain ⟨i1, i2⟩ := ih (u / 10) (by omega)
      have h10 : u % 10 < 10 := Nat.mod_lt _ (by omega)
      refine ⟨fun c hc => ?_, ?_⟩
      · rw [List.mem_append] at hc
        rcases hc with hc | hc
        · exact i1 c hc
        · have : c = UInt8.ofNat (48 + u % 10) := by simpa using hc
          rw [this, one _ h10]
          omega
      · rw [dv_app, i2, one _ h10]
        omega
theorem dgs_dec (u : Nat) : dgs ⟨(Lib.decDigits u).toArray⟩ = true := decide_eq_true ⟨dec_ne u, (dec_dig u).1⟩
theorem idO_dec (u : Nat) (h : u < 18446744073709551616) : idO ⟨(Lib.decDigits u).toArray⟩ = some u := by
  rw [idO_val, dgs_dec, if_pos rfl]
  show (if dv 0 (Lib.decDigits u) ≤ 18446744073709551615 then some (dv 0 (Lib.decDigits u)) else none) = _
  rw [(dec_dig u).2, if_pos (by omega)]
theorem hasM_dec (u : Nat) : hasM ⟨(Lib.decDigits u).toArray⟩ = false := by
  cases hl : Lib.decDigits u with
  | nil => exact absurd hl (dec_ne u)
  | cons c r =>
    obtain ⟨ha, hs⟩ := head_at ⟨(c :: r).toArray⟩ c r rfl
    have := (dec_dig u).1 c (by rw [hl]; simp)
    unfold hasM
    rw [ha, decide_eq_true hs]
    have : ¬ (c.toNat : Int) = 45 := by omega
    simp [this]
theorem numO_itoa (v : Int) (h0 : -9223372036854775808 ≤ v) (h1 : v ≤ 9223372036854775807) : numO ⟨(Lib.itoa v).toArray⟩ = some v := by
  rw [numO_val]
  unfold Lib.itoa
  by_cases hv : v < 0
  · rw [if_pos hv]
    have hm : hasM ⟨(45 :: Lib.decDigits v.natAbs).toArray⟩ = true := by
      obtain ⟨ha, hs⟩ := head_at ⟨(45 :: Lib.decDigits v.natAbs).toArray⟩ 45 _ rfl
      unfold hasM
      rw [ha, decide_eq_true hs]
      rfl
    have ht : trimM ⟨(45 :: Lib.decDigits v.natAbs).toArray⟩ = ⟨(Lib.decDigits v.natAbs).toArray⟩ := by
      apply ByteArray.ext
      apply Array.toList_inj.1
      unfold trimM
      rw [hm, if_pos rfl, sub_list]
      rfl
    rw [ht, idO_dec _ (by omega), hm]
    show (if true = true then (if 9223372036854775808 < v.natAbs then none else some (-(v.natAbs : Int))) else _) = _
    rw [if_pos rfl, if_neg (by omega)]
    congr 1
    omega
  · rw [if_neg hv]
    have hm := hasM_dec v.toNat
    have ht : trimM ⟨(Lib.decDigits v.toNat).toArray⟩ = ⟨(Lib.decDigits v.toNat).toArray⟩ := by unfold trimM; rw [hm, if_neg (by decide)]
    rw [ht, idO_dec _ (by omega), hm]
    show (if false = true then _ else _) = _
    rw [if_neg (by decide), if_neg (by omega)]
    congr 1
    omega
theorem dig_gap {l : List UInt8} (h : digL l) : ∀ c ∈ l, gB c = false := fun c hc => by
  have := h c hc
  unfold gB gapB bI
  exact decide_eq_false (by omega)
theorem itoa_gap (v : Int) : Lib.itoa v ≠ [] ∧ ∀ c ∈ Lib.itoa v, gB c = false := by
  unfold Lib.itoa
  split
  · refine ⟨by simp, fun c hc => ?_⟩
    rcases List.mem_cons.1 hc with rfl | hc
    · rfl
    · exact dig_gap (dec_dig _).1 c hc
  · exact ⟨dec_ne _, dig_gap (dec_dig _).1⟩
theorem name_gap {x : ByteArray} (h : nameB x = true) : ∀ c ∈ x.data.toList, gB c = false := fun c hc => by
  have := (name_word h).2 c hc
  unfold wB inW letB digB at this
  simp only [Bool.or_eq_true, decide_eq_true_eq, beq_iff_eq] at this
  unfold gB gapB
  exact decide_eq_false (by omega)

theorem lineU_pre (x : ByteArray) (e : Ev) (m : Nat) : ∀ j k, k + j = m → ∃ z, lineU x e m = lineU x e k ++ z ∧ (∀ c r, z = c :: r → gB c = true) ∧ (0 < j → ∃ z', z = 32 :: Lib.itoa (e.at k) ++ z' ∧ lineU x e m = lineU x e (k + 1) ++ z' ∧ (∀ c r, z' = c :: r → gB c = true)) := by
  intro j
  induction j with
  | zero => intro k hk; exact ⟨[], by rw [List.append_nil, show k = m by omega], fun c r h => (by cases h), fun h => absurd h (Nat.lt_irrefl _)⟩
  | succ j ih =>
    intro k hk
    obtain ⟨z, h1, h2, h3⟩ := ih (k + 1) (by omega)
    refine ⟨32 :: Lib.itoa (e.at k) ++ z, ?_, ?_, fun _ => ⟨z, rfl, h1, h2⟩⟩
    · rw [h1, lineU]
      simp
    · intro c r h
      have : c = 32 := by
        have := (List.cons.inj h).1
        exact this.symm
      rw [this]
      rfl
theorem rdV_line (x : ByteArray) (e : Ev) (ok : e.ok) (m : Nat) (hm : m ≤ 8) (s : ByteArray) (hs : s.data.toList = lineU x e m) : ∀ j k, k + j = m → (rdV s j (lineU x e k).length).1 = (List.range j).map (fun i => e.at (k + i)) ∧ (rdV s j (lineU x e k).length).2.1 = 0 := by
  have hl : s.data.toList.length = s.size := Array.length_toList
  intro j
  induction j with
  | zero =>
    intro k hk
    have e1 := word_end s (lineU x e k).length (by rw [← hl, hs, show k = m by omega]; exact Nat.le_refl _)
    rw [rdV, if_neg e1]
    exact ⟨rfl, rfl⟩
  | succ j ih =>
    intro k hk
    obtain ⟨z, h1, h2, h3⟩ := lineU_pre x e m (j + 1) k hk
    obtain ⟨z', h4, h5, h6⟩ := h3 (by omega)
    have hi := itoa_gap (e.at k)
    obtain ⟨w1, w2, w3, w4⟩ := word_at (lineU x e k) [32] (Lib.itoa (e.at k)) z' s (by rw [hs, h1, h4]; simp) (fun c hc => by have : c = 32 := (by simpa using hc); subst this; rfl) hi.1 hi.2 h6
    obtain ⟨i1, i2⟩ := ih (k + 1) (by omega)
    have e2 : wE s (lineU x e k).length = (lineU x e (k + 1)).length := by
      rw [w2, lineU]
      simp
      omega
    rw [rdV, if_pos w4, w3, numO_itoa _ (ok.at0 k (by omega)) (ok.at1 k (by omega)), e2]
    refine ⟨?_, i2⟩
    show e.at k :: (rdV s j (lineU x e (k + 1)).length).1 = _
    rw [i1, List.range_succ_eq_map, List.map_cons, List.map_map]
    congr 1
    apply List.map_congr_left
    intro i _
    show e.at (k + 1 + i) = e.at (k + (i + 1))
    rw [show k + 1 + i = k + (i + 1) by omega]
theorem type_at {L : List Ty} (h : schE L = 0) (i : Nat) (hi : i < L.length) : typeI L (L.getD i noTy).1 = i := by
  refine typeI_hit L _ i hi (by unfold hitB; simp) fun j hj => ?_
  have h0 := (type_zero ((sch_zero h).2.2 i hi)).1
  have hn := (type_zero ((sch_zero h).2.2 i hi)).2.1
  unfold nameE at h0
  rw [hn, if_neg (by decide)] at h0
  cases e : hitB (L.getD i noTy).1 (L.getD j noTy) with
  | false => rfl
  | true =>
    exfalso
    have hlt : (L.take i).findIdx (hitB (L.getD i noTy).1) < (L.take i).length := by
      rw [List.findIdx_lt_length]
      refine ⟨L.getD j noTy, ?_, e⟩
      rw [List.mem_take_iff_getElem]
      exact ⟨j, by omega, by simp [List.getD, List.getElem?_eq_getElem (show j < L.length by omega)]⟩
    unfold typeI at h0
    rw [if_pos hlt, if_pos (by omega)] at h0
    exact absurd h0 (by decide)
theorem line_back {L : List Ty} {e : Ev} (ok : e.ok) (h : evE L e = 0) : pE L (prE L e).1 = (e, 0, 0) := by
  have hE : (prE L e).1 = ⟨(lineU (L.getD e.typ.toNat noTy).1 e (L.getD e.typ.toNat noTy).2.length).toArray⟩ := by unfold prE; rw [if_pos h]
  rw [hE]
  obtain ⟨h0, h1, h2⟩ := ev_zero L e h
  have hi : e.typ.toNat < L.length := by omega
  have h8 := (type_zero ((sch_zero h0).2.2 _ hi)).2.2.1
  have hn := (type_zero ((sch_zero h0).2.2 _ hi)).2.1
  have hty := type_at h0 _ hi
  unfold evE at h
  rw [if_neg (fun e => e h0), if_neg (fun e => e ⟨h1, h2⟩)] at h
  split at h
  · exact absurd h (by decide)
  rename_i hsp
  split at h
  · exact absurd h (by decide)
  rename_i hts
  generalize hx : L.getD e.typ.toNat noTy = t at *
  obtain ⟨x, ss⟩ := t
  dsimp only at *
  generalize hs : (⟨(lineU x e ss.length).toArray⟩ : ByteArray) = s
  have hsd : s.data.toList = lineU x e ss.length := by rw [← hs]
  obtain ⟨z, z1, z2, _⟩ := lineU_pre x e ss.length ss.length 0 (by omega)
  have hln : lineU x e 0 = Lib.itoa e.ts ++ (32 :: Lib.decDigits e.id.toNat) ++ (32 :: x.data.toList) := by rw [lineU, lineH]; simp
  have i0 := itoa_gap e.ts
  have g32 : ∀ c ∈ ([32] : List UInt8), gB c = true := fun c hc => by have : c = 32 := (by simpa using hc); subst this; rfl
  obtain ⟨a1, a2, a3, a4⟩ := word_at [] [] (Lib.itoa e.ts) (32 :: Lib.decDigits e.id.toNat ++ (32 :: x.data.toList) ++ z) s (by rw [hsd, z1, hln]; simp) (fun c hc => by cases hc) i0.1 i0.2 (fun c r hh => by have := (List.cons.inj hh).1; rw [← this]; rfl)
  obtain ⟨b1, b2, b3, b4⟩ := word_at (Lib.itoa e.ts) [32] (Lib.decDigits e.id.toNat) ((32 :: x.data.toList) ++ z) s (by rw [hsd, z1, hln]; simp) g32 (dec_ne _) (dig_gap (dec_dig _).1) (fun c r hh => by have := (List.cons.inj hh).1; rw [← this]; rfl)
  obtain ⟨c1, c2, c3, c4⟩ := word_at (Lib.itoa e.ts ++ 32 :: Lib.decDigits e.id.toNat) [32] x.data.toList z s (by rw [hsd, z1, hln]; simp) g32 (name_word hn).1 (name_gap hn) z2
  have k1 : wE s 0 = (Lib.itoa e.ts).length := by simpa using a2
  have k2 : wE s (wE s 0) = (Lib.itoa e.ts ++ 32 :: Lib.decDigits e.id.toNat).length := by rw [k1, b2]; simp; omega
  have k3 : wE s (wE s (wE s 0)) = (lineU x e 0).length := by rw [k2, c2, hln]; simp; omega
  have n1 : numO (wd s 0) = some e.ts := by
    have : wd s 0 = _ := a3
    rw [this, numO_itoa _ ok.t0 ok.t1]
  have n2 : idO (wd s (wE s 0)) = some e.id.toNat := by rw [k1, b3, idO_dec _ (by have := ok.i1; have := ok.i0; omega)]
  have n3 : wd s (wE s (wE s 0)) = x := by rw [k2, c3]
  have n4 : wA s (wE s (wE s 0)) < s.size := by rw [k2]; exact c4
  obtain ⟨v1, v2⟩ := rdV_line x e ok ss.length h8 s hsd ss.length 0 (by omega)
  have hr : rdE s L = ((e.ts, (e.id.toNat : Int), e.typ.toNat, (List.range ss.length).map (fun i => e.at (0 + i))), 0, (rdV s ss.length (lineU x e 0).length).2.2) := by
    unfold rdE
    rw [n1]
    show (if safeB e.ts = false then _ else _) = _
    rw [if_neg (by unfold safeB; rw [decide_eq_true (Classical.not_not.1 hts)]; decide), n2]
    show (if ¬ wA s (wE s (wE s 0)) < s.size then _ else _) = _
    rw [if_neg (fun hh => hh n4), n3, hty, if_neg (by omega)]
    show (((e.ts, (e.id.toNat : Int), ((e.typ.toNat : Nat) : Int).toNat, _), _) : (Int × Int × Nat × List Int) × Int × Nat) = _
    rw [Int.toNat_natCast, hx, k3, v1]
    show (_, (rdV s ss.length (lineU x e 0).length).2) = _
    rw [← v2]
  have hp : pad ((List.range ss.length).map (fun i => e.at (0 + i))) = [e.a0, e.a1, e.a2, e.a3, e.a4, e.a5, e.a6, e.a7] := by
    have hlen : (pad ((List.range ss.length).map (fun i => e.at (0 + i)))).length = 8 := pad_len (by simp; exact h8)
    apply List.ext_getElem?
    intro i
    by_cases hi8 : i < 8
    · have e1 : [e.a0, e.a1, e.a2, e.a3, e.a4, e.a5, e.a6, e.a7][i]? = some (e.at i) := by
        unfold Ev.at
        simp [List.getD, List.getElem?_eq_getElem (show i < [e.a0, e.a1, e.a2, e.a3, e.a4, e.a5, e.a6, e.a7].length from hi8)]
      rw [e1]
      unfold pad
      by_cases hi2 : i < ss.length
      · rw [List.getElem?_append_left (by simpa using hi2), List.getElem?_map, List.getElem?_range hi2, Option.map_some, Nat.zero_add]
      · rw [List.getElem?_append_right (by simpa using Nat.le_of_not_lt hi2), List.getElem?_replicate, if_pos (by simp; omega)]
        have : e.at i = 0 := by
          apply Classical.byContradiction
          intro hne
          exact hsp (spareB_yes _ e i (by omega) hi8 hne)
        rw [this]
    · rw [List.getElem?_eq_none (by omega), List.getElem?_eq_none (by simp; omega)]
  unfold pE
  rw [if_neg (fun hh => hh h0), hr, if_neg (fun hh => hh rfl)]
  have := mkEv_eq (z := (e.ts, (e.id.toNat : Int), e.typ.toNat, (List.range ss.length).map (fun i => e.at (0 + i)))) (ev := e) rfl (by show e.id = (e.id.toNat : Int); have := ok.i0; omega) (by show e.typ = (e.typ.toNat : Int); omega) hp.symm
  rw [← this]
theorem text_back {L : List Ty} (h : schE L = 0) : scO (prS L).1 = (L, 0, 0) := by
  have hE : (prS L).1 = ⟨(textU L L.length).toArray⟩ := by unfold prS; rw [if_pos h]
  rw [hE]
  obtain ⟨q1, q2⟩ := sch_small L h
  have := textU_len L q2 L.length (Nat.le_refl _)
  exact scO_tkf _ (by rw [size_mk]; omega) L (text_toks h)

end Go.Proofs.YtkpnnofonocilaaDoor
