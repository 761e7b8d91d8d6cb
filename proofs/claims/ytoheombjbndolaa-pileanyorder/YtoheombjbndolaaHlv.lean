/- shuffled: the list in another order. -/
import Derived.Test.YtoheombjbndolaaHlu
import Derived.Test.YtoheombjbndolaaHrm
import Derived.Deep.CutRange
namespace Go.Proofs.Ytoheombjbndolaa
open Go.RowKit Go.BigFrame
set_option linter.unusedVariables false
set_option linter.unusedSimpArgs false

theorem own_base {w : World} {b b' : Nat} {e : TypeId} {size : Nat} {v : Value} {n : Nat} {xs : List Value} (h : w.ownsRow b e size v n xs) (hb : b' ≤ b) : w.ownsRow b' e size v n xs := by
  obtain ⟨h1, h2⟩ := h
  refine ⟨h1, ?_⟩
  rcases h2 with h2 | ⟨g, cap, cur, e, hg, r⟩
  · exact .inl h2
  · exact .inr ⟨g, cap, cur, e, Nat.le_trans hb hg, r⟩
theorem perm_out {R S l : List Ev} {ii : Nat} {x : Ev} (hii : ii < R.length) (hx : R.getD ii zeroE = x) (hP : (R ++ S).Perm l) : ((R.take ii ++ R.drop (ii + 1)) ++ (S ++ [x])).Perm l := by
  refine List.Perm.trans ?_ hP
  have e : R = R.take ii ++ x :: R.drop (ii + 1) := by
    have e1 : x = R[ii] := by rw [← hx]; simp [List.getD_eq_getElem?_getD, hii]
    rw [e1, List.getElem_cons_drop, List.take_append_drop]
  have p1 : R.Perm (x :: (R.take ii ++ R.drop (ii + 1))) := by
    conv => lhs; rw [e]
    exact List.perm_middle
  have p2 : ((R.take ii ++ R.drop (ii + 1)) ++ (S ++ [x])).Perm (x :: ((R.take ii ++ R.drop (ii + 1)) ++ S)) := by
    rw [← List.append_assoc]
    exact List.perm_append_singleton _ _
  exact p2.trans ((p1.append_right S).symm)
theorem shuf_end {l R S : List Ev} {ii : Nat} {x : Ev} {w wr WA w6 w7 w8 : World} {vr vs v8 : Value} {gz cz p7 : Nat} {a7 : Option Addr} {T : TypeId} (hii : ii < R.length) (hx : R.getD ii zeroE = x) (hP : (R ++ S).Perm l) (OR : wr.ownsRow w.heap.size T 11 vr R.length (fl evC R)) (OA : WA.ownsRow w.heap.size T 11 vs S.length (fl evC S))
    (O6 : w6.ownsRow w.heap.size T 11 (.slice (some ⟨gz, 0, none⟩) (S.length + 1) cz) (S.length + 1) (fl evC S ++ (evC x).toList)) (G6 : WA.grownBy w6 vs.ownBlock) (O7 : w7.ownsRow w6.heap.size T 11 (.slice a7 ii p7) ii (fl evC (R.take ii))) (G7 : w6.grownBy w7 (Value.slice none 0 0).ownBlock)
    (O8 : w8.ownsRow w6.heap.size T 11 v8 (ii + (R.length - (ii + 1))) (fl evC (R.take ii) ++ fl evC (R.drop (ii + 1)))) (G8 : w7.grownBy w8 (Value.slice a7 ii p7).ownBlock) (G : Below w.heap.size w WA) (hbw : w.heap.size ≤ WA.heap.size) :
    ∃ (R' S' : List Ev), Value.int .i64 ((S.length : Int) + 1) = .int .i64 (S'.length : Int) ∧ (R' ++ S').Perm l ∧ w8.ownsRow w.heap.size T 11 v8 R'.length (fl evC R') ∧ w8.ownsRow w.heap.size T 11 (.slice (some ⟨gz, 0, none⟩) (S.length + 1) cz) S'.length (fl evC S') ∧ (∀ g, v8.ownBlock = some g → (Value.slice (some ⟨gz, 0, none⟩) (S.length + 1) cz).ownBlock ≠ some g) ∧ Below w.heap.size w w8 := by
  have B6 : Below w.heap.size w w6 := G.grown G6 hbw (fun k e => (World.ownsRow.lt OA k e).1)
  have B7 : Below w6.heap.size w6 w7 := (Below.refl w6.heap.size w6).grown G7 (Nat.le_refl _) (fun k e => by simp [Value.ownBlock] at e)
  have B8 : Below w6.heap.size w6 w8 := B7.grown G8 B7.size (fun k e => (World.ownsRow.lt O7 k e).1)
  refine ⟨R.take ii ++ R.drop (ii + 1), S ++ [x], by simp, perm_out hii hx hP, ?_, ?_, fun g e1 e2 => ?_, gtrans B6 B8⟩
  · rw [fl_app, List.length_append, List.length_take, List.length_drop, Nat.min_eq_left (by omega)]
    exact own_base O8 B6.size
  · rw [fl_app, List.length_append]
    have := own_keep O6 B8
    simpa [fl] using this
  · have h1 := (World.ownsRow.lt O8 g e1).1
    have h2 := (World.ownsRow.lt O6 g e2).2
    omega
set_option maxRecDepth 100000 in
set_option maxHeartbeats 4000000 in
theorem shuffled_any (ao : Option Addr) (cap : Nat) (l : List Ev) (aq : Option Addr) (cq : Nat) (ol : List Int) (w : World) (hsl : Sl ao l.length cap) (F : Flat w ao (fl evC l)) (hl : l.length * 88 ≤ 140737488351232) (hsq : Sl aq ol.length cq) (Fq : Flat w aq (fl inC ol)) (hlq : ol.length * 8 ≤ 140737488351232) : Calls Try.prog 27 #[.slice ao l.length cap, .slice aq ol.length cq] w fun e w' => ∃ a c S, e = .returned (.slice a l.length c) ∧ w'.ownsRow w.heap.size 30 11 (.slice a l.length c) l.length (fl evC S) ∧ Below w.heap.size w w' ∧ S.Perm l := by
  go_enter Try.func27, Try.ntmps27
  go_upto_region 4 with (first
    | (at_builtin; refine wpList_append_flatw rfl (.tmp 10) (.tmp 11) rfl Try.underlying22 nfEv rfl (by decide) (.slice none 0 0) w.heap.size 0 [] rfl (World.ownsRow_nil _ _ _ _) (Nat.le_refl _) ao l.length cap (fl evC l) rfl hsl F (fl_len ev_size l) (fl_one ev_ones1 l) (by omega) (by omega) ?_; intro v' w6 O6 G6; rw [Nat.zero_add, List.nil_append] at O6; obtain ⟨a6, p6, rfl, _⟩ := own_form O6))
  have B6 : Below w.heap.size w w6 := (Below.refl w.heap.size w).grown G6 (Nat.le_refl _) (fun k e => by simp [Value.ownBlock] at e)
  go_loopw [5, 6, 7, 8, 9] (fun vr vo vk _ _ wr => ∃ (R S : List Ev), vk = .int .i64 (S.length : Int) ∧ (R ++ S).Perm l ∧ wr.ownsRow w.heap.size 30 11 vr R.length (fl evC R) ∧ wr.ownsRow w.heap.size 30 11 vo S.length (fl evC S) ∧ (∀ g, vr.ownBlock = some g → vo.ownBlock ≠ some g) ∧ Below w.heap.size w wr) (fun _ _ vk _ _ _ => l.length - (intOf vk).toNat)
  case atStart => exact ⟨l, [], rfl, by simp, O6, World.ownsRow_nil _ _ _ _, fun g e e2 => by simp [Value.ownBlock] at e2, B6⟩
  case round =>
    obtain ⟨R, S, rfl, hP, OR, OS, hd, G⟩ := hrel
    obtain ⟨ar, cr, rfl, hcr⟩ := own_form OR
    obtain ⟨aS, cS, rfl, hcs⟩ := own_form OS
    have hlen := hP.length_eq
    rw [List.length_append] at hlen
    clear O6 G6 B6
    by_cases h0 : 0 < R.length
    · have q0 : (0 : Int) < (R.length : Int) := by omega
      have q0d : decide (0 < R.length) = true := by simp; omega
      have q0e : decide ((0 : Int) < (R.length : Int)) = true := by simp; omega
      have qn : ((R.length : Int) == 0) = false := by rw [beq_eq_false_iff_ne]; omega
      have HL : Hid (R.length + S.length = l.length) := hlen
      go_upto_if 20 with fail
      go_cut [8] from 13 to 54 (fun s wx => ∃ z : Int, s = .int .i64 z ∧ z < (R.length : Int) ∧ -(R.length : Int) < z ∧ wr = wx)
      case first =>
        by_cases hq : 0 < ol.length
        · have k0 : (0 : Int) < (ol.length : Int) := by omega
          have k0d : decide (0 < ol.length) = true := by simp; omega
          have k0e : decide ((0 : Int) < (ol.length : Int)) = true := by simp; omega
          obtain ⟨gq, oq, rfl, hgq, hcq⟩ := (Fq.keep G).form (by rw [fl_len (sz := 1) (fun _ => rfl)]; omega)
          obtain ⟨kq, hkq⟩ : ∃ kq, kq = S.length % ol.length := ⟨_, rfl⟩
          have hkl : kq < ol.length := by rw [hkq]; exact Nat.mod_lt _ hq
          have E1 : (S.length : Int) % (ol.length : Int) = (kq : Int) := by rw [hkq]; exact (Int.natCast_emod _ _).symm
          have k1 : (kq : Int) < (ol.length : Int) := by omega
          have dq := hcq kq (.int .i64 (ol.getD kq 0)) (by have := fl_at (cv := inC) (sz := 1) (fun _ => rfl) 0 ol kq 0 hkl (by omega); rw [Nat.mul_one, Nat.add_zero] at this; rw [this]; rfl)
          generalize ol.getD kq 0 = z at *
          clear hkq hcq
          go_wp2
          go_meet
          case rel => exact ⟨z.tmod R.length, rfl, Int.tmod_lt_of_pos _ q0, by have := Int.lt_tmod_of_pos z q0; omega, rfl⟩
        · have k0d : decide (0 < ol.length) = false := decide_eq_false hq
          have k0e : decide ((0 : Int) < (ol.length : Int)) = false := decide_eq_false (by omega)
          have k0 : ¬ (0 : Int) < (ol.length : Int) := by omega
          go_wp2
          go_meet
          case rel => exact ⟨0, rfl, q0, by omega, rfl⟩
      case rest =>
        obtain ⟨z, rfl, hz1, hz2, rfl⟩ := hcut
        go_upto_if 32 with fail
        go_cut [8] from 13 to 54 (fun s wx => ∃ ii : Nat, s = .int .i64 (ii : Int) ∧ ii < R.length ∧ wr = wx)
        case first =>
          by_cases hn : z < 0
          · have k2 : decide (z < 0) = true := decide_eq_true hn
            go_wp2
            go_meet
            case rel => exact ⟨(z + R.length).toNat, by rw [Int.toNat_of_nonneg (by omega)], by omega, rfl⟩
          · have k2 : decide (z < 0) = false := decide_eq_false hn
            go_wp2
            go_meet
            case rel => exact ⟨z.toNat, by rw [Int.toNat_of_nonneg (by omega)], by omega, rfl⟩
        case rest =>
          obtain ⟨ii, rfl, hii, rfl⟩ := hcut
          obtain ⟨g, cr', e, hbg, _⟩ := OR.form h0
          cases e
          have hgl : g < wr.heap.size := (World.ownsRow.lt OR g rfl).2
          have rx : wr.rangeAt g (ii * 11) (evC (R.getD ii zeroE)).toList := by
            have := flat_range ev_size zeroE (own_flat OR) ii hii
            rwa [Nat.zero_add] at this
          obtain ⟨x, hx⟩ : ∃ x, R.getD ii zeroE = x := ⟨_, rfl⟩
          rw [hx] at rx
          have HX : Hid (R.getD ii zeroE = x) := hx
          have q1 : (ii : Int) < (R.length : Int) := by omega
          have hbs := evBuildE x wr
          have G10 := galloc (Below.refl wr.heap.size wr) (.cells (evC x) 30)
          have bn := Bk.new wr (evC x) 30
          have hnews := World.news_of_block bn
          generalize hWA : wr.alloc (.cells (evC x) 30) = WA at *
          have OA := own_keep OS G10
          have ORA := own_keep OR G10
          have hbw : w.heap.size ≤ WA.heap.size := Nat.le_trans G.size G10.size
          have hSl : S.length + R.length = l.length := by omega
          clear hx hWA hz1 hz2
          go_upto_region 13 with (first
            | (refine wpList_load_mid rfl 30 _ rfl g (ii * 11) rfl (evC x).toList _ rx Try.underlying30 rfl infoEv ?_; refine wpList_build1 rfl (.tmp 41) rfl rfl hbs ?_; refine wpList_append_one rfl (.tmp 37) (.tmp 42) rfl Try.underlying22 nfEv rfl (by decide) _ w.heap.size S.length _ rfl OA hbw ⟨wr.heap.size, 0, none⟩ 1 (evC x).toList rfl rfl hnews (ev_ones1 x) (by omega) (by omega) ?_; intro gz cz w6 O6 G6 hg))
          have OR6 := own_same ORA (fun q e => G6.block q (World.ownsRow.lt ORA q e).2 (fun e2 => hd q e e2.symm))
          have hcr' : R.length ≤ cr := hcr.1
          have k3 : (ii : Int) ≤ (cr : Int) := by omega
          have k4 : ii ≤ cr := by omega
          go_upto_region 14 with (first
            | (at_builtin; refine wpList_append_flatw rfl (.tmp 44) (.tmp 47) rfl Try.underlying22 nfEv rfl (by decide) (.slice none 0 0) w6.heap.size 0 [] rfl (World.ownsRow_nil _ _ _ _) (Nat.le_refl _) (some ⟨g, 0, none⟩) ii cr (fl evC (R.take ii)) rfl ⟨k4, fun e => by cases e⟩ (flat_take (own_flat OR6) ii) (by rw [fl_len ev_size, List.length_take, Nat.min_eq_left (by omega)]) (fl_one ev_ones1 _) (by omega) (by omega) ?_; intro v7 w7 O7 G7; rw [Nat.zero_add, List.nil_append] at O7))
          obtain ⟨a7, p7, rfl, h7⟩ := own_form O7
          have B7 : Below w6.heap.size w6 w7 := (Below.refl w6.heap.size w6).grown G7 (Nat.le_refl _) (fun k e => by simp [Value.ownBlock] at e)
          have OR7 := own_keep OR6 B7
          have k5 : ((ii : Int) + 1) ≤ (R.length : Int) := by omega
          have k6 : (R.length : Int) ≤ (cr : Int) := by omega
          have hm : ii + (R.length - (ii + 1)) ≤ l.length := by omega
          by_cases hce : cr = ii + 1
          · have hRe : R.drop (ii + 1) = [] := List.drop_eq_nil_of_le (by omega)
            have FD : Flat w7 (some ⟨g, 0, none⟩) (fl evC (R.drop (ii + 1))) := by rw [hRe]; exact Flat.nil _ _
            clear hRe
            subst hce
            go_wp2_with (first
              | (at_builtin; refine wpList_append_flatw rfl (.tmp 49) (.tmp 53) rfl Try.underlying22 nfEv rfl (by decide) _ w6.heap.size ii _ rfl O7 B7.size (some ⟨g, 0, none⟩) 0 _ (fl evC (R.drop (ii + 1))) rfl ⟨by omega, fun e => by cases e⟩ FD (by rw [fl_len ev_size, List.length_drop]; omega) (fl_one ev_ones1 _) (by omega) (by omega) ?_; intro v8 w8 O8 G8))
            go_roundw
            case rel =>
              have hx : R.getD ii zeroE = x := HX
              have e0 : R.length - (ii + 1) = 0 := by omega
              exact shuf_end hii hx hP OR OA O6 G6 O7 G7 (by rw [e0]; exact O8) G8 (gtrans G G10) hbw
            case measure => have hS : R.length + S.length = l.length := HL; simp [intOf]; omega
          · have FD : Flat w7 (some ⟨g, (ii + 1) * 11, none⟩) (fl evC (R.drop (ii + 1))) := by
              have := flat_drop ev_size (own_flat OR7) (ii + 1) (by omega)
              rwa [Nat.zero_add] at this
            go_wp2_with (first
              | (at_builtin; refine wpList_append_flatw rfl (.tmp 49) (.tmp 53) rfl Try.underlying22 nfEv rfl (by decide) _ w6.heap.size ii _ rfl O7 B7.size (some ⟨g, (ii + 1) * 11, none⟩) (R.length - (ii + 1)) _ (fl evC (R.drop (ii + 1))) rfl ⟨by omega, fun e => by cases e⟩ FD (by rw [fl_len ev_size, List.length_drop]) (fl_one ev_ones1 _) (by omega) (by omega) ?_; intro v8 w8 O8 G8))
            go_roundw
            case rel =>
              have hx : R.getD ii zeroE = x := HX
              exact shuf_end hii hx hP OR OA O6 G6 O7 G7 O8 G8 (gtrans G G10) hbw
            case measure => have hS : R.length + S.length = l.length := HL; simp [intOf]; omega
    · have hR0 : R = [] := List.length_eq_zero_iff.1 (by omega)
      subst hR0
      have hSl : S.length = l.length := by simpa using hlen
      have q0d : decide (0 < ([] : List Ev).length) = false := rfl
      rw [List.nil_append] at hP
      rw [hSl] at OS ⊢
      go_wp2
      go_ret
      exact ⟨aS, cS, S, rfl, OS, G, hP⟩

end Go.Proofs.Ytoheombjbndolaa
