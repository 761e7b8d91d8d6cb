/- shuffled of the gate's statements: the list in another order. -/
import Derived.Test.YtjfbbfmnghccdaaGla
import Derived.Deep.OwnRows
import Derived.Sort.OwnSortedInts
namespace Go.Proofs.Ytjfbbfmnghccdaa
open Go.RowKit Go.BigFrame Go.Maps
set_option linter.unusedVariables false
set_option linter.unusedSimpArgs false

theorem boolG_info : (Try.prog.info? 4).map (fun i => (i.zero, i.size, i.bytes)) = some (some (.bool false), 1, 1) := by kernel_rfl
theorem range_getD (l : List Ev) (z : Ev) : (List.range l.length).map (fun j => l.getD j z) = l := by
  refine List.ext_getElem (by simp) fun i h1 h2 => ?_
  simp [List.getD, h2]
/-- R: the places that are not met yet; I: those that are. -/
structure Vis (n : Nat) (R I : List Nat) : Prop where
  p : (R ++ I).Perm (List.range n)
theorem Vis.start (n : Nat) : Vis n (List.range n) [] := ⟨by simp⟩
theorem Vis.len {n : Nat} {R I : List Nat} (h : Vis n R I) : R.length + I.length = n := by
  have := h.p.length_eq
  simpa using this
theorem Vis.lt {n : Nat} {R I : List Nat} (h : Vis n R I) {j : Nat} (hj : j ∈ R) : j < n := List.mem_range.1 (h.p.mem_iff.1 (List.mem_append_left _ hj))
theorem Vis.not {n : Nat} {R I : List Nat} (h : Vis n R I) {j : Nat} (hj : j ∈ R) : j ∉ I := fun e => by
  have nd : (R ++ I).Nodup := h.p.nodup_iff.2 List.nodup_range
  exact (List.nodup_append.1 nd).2.2 j hj j e rfl
theorem Vis.mem {n : Nat} {R I : List Nat} (h : Vis n R I) {j : Nat} (hj : j < n) (hn : j ∉ I) : j ∈ R := by
  rcases List.mem_append.1 (h.p.mem_iff.2 (List.mem_range.2 hj)) with e | e
  · exact e
  · exact absurd e hn
theorem Vis.step {n : Nat} {R I : List Nat} (h : Vis n R I) {j : Nat} (hj : j ∈ R) : Vis n (R.erase j) (I ++ [j]) := ⟨by
  refine List.Perm.trans ?_ h.p
  have p1 := List.perm_cons_erase hj
  rw [← List.append_assoc]
  exact (List.perm_append_singleton _ _).trans (p1.symm.append_right I)⟩
theorem Vis.all {n : Nat} {R I : List Nat} (h : Vis n R I) (hi : I.length = n) : I.Perm (List.range n) := by
  have := h.len
  have e : R = [] := List.length_eq_zero_iff.1 (by omega)
  subst e
  exact h.p
/-- How far it is from a to j, going round. -/
def goFar (n j a : Nat) : Nat := if a ≤ j then j - a else j + n - a
/-- What shuffled answers. -/
structure ShfP (w : World) (l : List Ev) (e : Ending) (w' : World) : Prop where
  ex : ∃ a c S, e = .returned (.slice a l.length c) ∧ S.Perm l ∧ w'.ownsRow w.heap.size 29 11 (.slice a l.length c) l.length (fl evC S) ∧ Below w.heap.size w w'
/-- At the round i. -/
structure ShfI (w : World) (b : Nat) (l : List Ev) (vo va vi : Value) (wr : World) : Prop where
  ex : ∃ (R I : List Nat) (a : Nat) (ao : Option Addr) (c : Nat), Vis l.length R I ∧ a < l.length ∧ va = .int .i64 (a : Int) ∧ vi = .int .i64 (I.length : Int) ∧ vo = .slice ao I.length c ∧ wr.rowIs b 4 l.length (fun j => .bool (decide (j ∈ I))) ∧ wr.ownsRow w.heap.size 29 11 (.slice ao I.length c) I.length (fl evC (I.map fun j => l.getD j zeroE)) ∧ Below w.heap.size w wr
theorem small_room {n : Nat} (h : n ≤ 5000) : ((n + 1) + (n + 1) / 4 + 192) * 88 ≤ 281474976710656 := by
  have h1 : (n + 1) / 4 ≤ 5000 := Nat.div_le_of_le_mul (by omega)
  have h2 : ((n + 1) + (n + 1) / 4 + 192) ≤ 20000 := by omega
  exact Nat.le_trans (Nat.mul_le_mul_right 88 h2) (by decide)
theorem tmod_nat {k : Int} {n : Nat} (hn : 0 < n) : ∃ a : Nat, a < n ∧ (k.tmod n + n).tmod n = (a : Int) ∧ -(n : Int) < k.tmod n ∧ k.tmod n < n := by
  have h1 : k.tmod n < n := Int.tmod_lt_of_pos k (by omega)
  have h2 : -(n : Int) < k.tmod n := by have := Int.lt_tmod_of_pos k (show (0 : Int) < n by omega); omega
  have h3 : 0 ≤ (k.tmod n + n).tmod n := Int.tmod_nonneg _ (by omega)
  have h4 : (k.tmod n + n).tmod n < n := Int.tmod_lt_of_pos _ (by omega)
  exact ⟨((k.tmod n + n).tmod n).toNat, by omega, by omega, h2, h1⟩
theorem tmod_small {a n : Nat} (hn : 0 < n) : ((a : Int)).tmod n = ((a % n : Nat) : Int) := by
  rw [Int.tmod_eq_emod_of_nonneg (by omega)]; omega
set_option maxRecDepth 100000 in
set_option maxHeartbeats 4000000 in
theorem shufG_any (ao : Option Addr) (cap : Nat) (l : List Ev) (k d : Int) (w : World) (F : Flat w ao (fl evC l)) (hl : l.length ≤ 4096) :
    Calls Try.prog 27 #[.slice ao l.length cap, .int .i64 k, .int .i64 d] w fun e w' => ShfP w l e w' := by
  obtain ⟨n, hn⟩ : ∃ n, l.length = n := ⟨_, rfl⟩
  have hmk := run_make_row' (P := Try.prog) 97 4 (.bool false) 1 Try.underlying97 boolG_info rfl .i64 .i64 n (by omega) (by omega)
  by_cases h0 : n = 0
  · subst h0
    have hz : l = [] := List.length_eq_zero_iff.1 hn
    subst hz
    clear hn
    simp only [List.length_nil] at *
    have hmk0 : ∀ W : World, (Instr.makeSlice 97 (.int .i64 0) (.int .i64 0)).run Try.prog W = .ok (.slice (some ⟨W.heap.size, 0, none⟩) 0 0) (W.alloc (.cells (madeCells #[.bool false] 0) 4)) := hmk
    go_enter Try.func27, Try.ntmps27
    go_upto_region 11 with fail
    go_loopw [7, 10, 12] (fun vo va vi wr => vo = .slice none 0 0 ∧ vi = .int .i64 0 ∧ wr = w.alloc (.cells (madeCells #[.bool false] 0) 4)) (fun _ _ _ _ => 0)
    case atStart => exact ⟨rfl, rfl, rfl⟩
    case round =>
      obtain ⟨rfl, rfl, rfl⟩ := hrel
      go_wp2
      go_ret
      exact ⟨none, 0, [], rfl, List.Perm.refl _, World.ownsRow_nil _ _ _ _, galloc (Below.refl _ _) _⟩
  · have hn0 : 0 < n := by omega
    obtain ⟨a0, ha0, ea0, ka1, ka2⟩ := tmod_nat (k := k) hn0
    obtain ⟨st, hst, est, kd1, kd2⟩ := tmod_nat (k := d) hn0
    have hnz : (n : Int) ≠ 0 := by omega
    rw [hn]
    have hnp : (0 : Int) < (n : Int) := by omega
    go_enter Try.func27, Try.ntmps27
    go_upto_region 11 with fail
    have R0 := World.rowIs_made w (.bool false) n 4
    have B0 := galloc (Below.refl w.heap.size w) (.cells (madeCells #[.bool false] n) 4)
    clear hmk ea0 ka1 ka2 est kd1 kd2
    generalize w.alloc (.cells (madeCells #[.bool false] n) 4) = V at *
    go_loopw [7, 10, 12] (fun vo va vi wr => ShfI w w.heap.size l vo va vi wr) (fun _ _ vi _ => n - (intOf vi).toNat)
    case atStart => exact ⟨List.range l.length, [], a0, none, 0, Vis.start _, by omega, rfl, rfl, rfl, hn ▸ R0, World.ownsRow_nil _ _ _ _, B0⟩
    case round =>
      obtain ⟨R, I, a, aI, cI, VI, ha, rfl, rfl, rfl, RB, OS, B⟩ := hrel
      clear R0 B0
      rw [hn] at VI ha RB
      have hlen := VI.len
      by_cases hlt : I.length < n
      · obtain ⟨j, hj⟩ : ∃ j, j ∈ R := List.exists_mem_of_length_pos (by omega)
        have hjn := VI.lt hj
        have hjI := VI.not hj
        have q1 : (I.length : Int) < (n : Int) := by omega
        have HT : Hid (I.length < n) := hlt
        have HL : Hid (R.length + I.length = n) := hlen
        obtain ⟨wo, hwo⟩ : ∃ wo, wo = wr := ⟨_, rfl⟩
        subst hwo
        clear hlt hlen
        go_upto_region 13 with fail
        go_loopw [10] (fun va wr => ∃ a : Nat, a < n ∧ va = .int .i64 (a : Int) ∧ wr = wo) (fun va _ => goFar n j (intOf va).toNat)
        case atStart => exact ⟨a, ha, rfl, rfl⟩
        case round =>
          obtain ⟨b, hb, rfl, rfl⟩ := hrel
          have x1 := RB.cell (i := b) hb
          have f1 := RB.frozen b
          have q2 : (b : Int) < (n : Int) := by omega
          by_cases hbI : b ∈ I
          · rw [decide_eq_true hbI] at x1
            have hne : b ≠ j := fun e => hjI (e ▸ hbI)
            obtain ⟨c, hc⟩ : ∃ c, (b + 1) % n = c := ⟨_, rfl⟩
            have hcn : c < n := by rw [← hc]; exact Nat.mod_lt _ hn0
            have hm1 : ((b : Int) + 1).tmod (n : Int) = (c : Int) := by rw [← hc]; exact tmod_small (a := b + 1) hn0
            have hm2 : ((b : Int) + 1) % (n : Int) = (c : Int) := by rw [← hc, Int.natCast_emod]; rfl
            have hfar : goFar n j c < goFar n j b := by
              unfold goFar
              by_cases h1 : b + 1 = n
              · have : c = 0 := by rw [← hc, h1, Nat.mod_self]
                subst this
                rw [if_pos (Nat.zero_le _)]
                split <;> omega
              · have : c = b + 1 := by rw [← hc, Nat.mod_eq_of_lt (by omega)]
                subst this
                split <;> split <;> omega
            have HF : Hid (goFar n j c < goFar n j b) := hfar
            clear hfar hc
            go_wp2
            go_roundw
            case rel => exact ⟨c, hcn, rfl, trivial⟩
            case measure => have hfar := HF.out; simpa [intOf] using hfar
          · rw [decide_eq_false hbI] at x1
            have hbR := VI.mem hb hbI
            obtain ⟨g, o, rfl, hgl, _⟩ := (F.keep B).form (by rw [fl_len ev_size]; omega)
            have B1 := gset B (p := ⟨w.heap.size, b, none⟩) (Nat.le_refl _) (.bool true)
            have RB1 := (RB.set b (.bool true)).congr (g := fun j => .bool (decide (j ∈ I ++ [b]))) (fun j hj => by
              by_cases h : j = b
              · rw [if_pos h, h, decide_eq_true (by simp)]
              · rw [if_neg h]; simp [h])
            have OS1 : (wr.setCell ⟨w.heap.size, b, none⟩ (.bool true)).ownsRow w.heap.size 29 11 (.slice aI I.length cI) I.length (fl evC (I.map fun j => l.getD j zeroE)) := by
              obtain ⟨cs, hcs, _, _⟩ := RB
              exact ty_set OS hcs (by decide) b _
            go_upto_region 16 with fail
            generalize wr.setCell ⟨w.heap.size, b, none⟩ (.bool true) = w1 at *
            have rx := flat_range ev_size zeroE (F.keep B1) b (by omega)
            obtain ⟨x, hx⟩ : ∃ x, l.getD b zeroE = x := ⟨_, rfl⟩
            rw [hx] at rx
            have HX : Hid (l.getD b zeroE = x) := hx
            have hbs := evBuildE x w1
            have G10 := galloc (Below.refl w1.heap.size w1) (.cells (evC x) 29)
            have bn := Bk.new w1 (evC x) 29
            have hnews := World.news_of_block bn
            generalize hWA : w1.alloc (.cells (evC x) 29) = WA at *
            have OA := own_keep OS1 G10
            have hbw : w.heap.size ≤ WA.heap.size := Nat.le_trans B1.size G10.size
            have hr1 : Hid (I.length + 1 ≤ 9223372036854775807) := by have := HT.out; unfold Hid; omega
            have hr2 : Hid (((I.length + 1) + (I.length + 1) / 4 + 192) * 88 ≤ 281474976710656) := small_room (by have := HT.out; omega)
            clear hx hWA
            go_upto_region 17 with (first
              | (refine wpList_load_mid rfl 29 _ rfl g (o + b * 11) rfl (evC x).toList _ rx Try.underlying29 rfl infoEv ?_; refine wpList_build1 rfl (.tmp 55) rfl rfl hbs ?_; refine wpList_append_one rfl (.tmp 51) (.tmp 56) rfl Try.underlying22 nfEv rfl (by decide) _ w.heap.size I.length _ rfl OA hbw ⟨w1.heap.size, 0, none⟩ 1 (evC x).toList rfl rfl hnews (ev_ones1 x) hr1.out hr2.out ?_; intro gz cz w6 O6 G6 hg))
            obtain ⟨c, hc⟩ : ∃ c, (b + st) % n = c := ⟨_, rfl⟩
            have hcn : c < n := by rw [← hc]; exact Nat.mod_lt _ hn0
            have hm1 : ((b : Int) + (st : Int)).tmod (n : Int) = (c : Int) := by rw [← hc]; exact tmod_small (a := b + st) hn0
            have hm2 : ((b : Int) + (st : Int)) % (n : Int) = (c : Int) := by rw [← hc, Int.natCast_emod]; rfl
            have RB6 : w6.rowIs w.heap.size 4 n (fun j => .bool (decide (j ∈ I ++ [b]))) := by
              obtain ⟨cs, hcs, k1, k2⟩ := RB1.of_block (G10.block _ RB1.lt)
              exact ⟨cs, bk_far hcs OA (by decide) G6, k1, k2⟩
            have B6 : Below w.heap.size w w6 := (gtrans B1 G10).grown G6 hbw (fun k e => (World.ownsRow.lt OA k e).1)
            have HP : Hid (ShfI w w.heap.size l (.slice (some ⟨gz, 0, none⟩) (I.length + 1) cz) (.int .i64 (c : Int)) (.int .i64 ((I.length : Int) + 1)) w6) := ⟨R.erase b, I ++ [b], c, some ⟨gz, 0, none⟩, cz, hn ▸ VI.step hbR, by omega, rfl, by simp, by simp, hn ▸ RB6, by
              rw [List.map_append, fl_app, List.length_append]
              have := O6
              rw [← HX.out] at this
              simpa [fl] using this, B6⟩
            clear hc RB6 RB1 RB OS OS1 O6 OA G6 hnews bn rx
            go_wp2
            go_roundw
            case rel => exact HP.out
            case measure => have hlt := HT.out; simp [intOf]; omega
      · have hn2 : I.length = n := by omega
        have hki : ¬ (I.length : Int) < (n : Int) := by omega
        have hP := (VI.all hn2).map fun j => l.getD j zeroE
        have e1 := range_getD l zeroE
        rw [hn] at e1
        rw [e1] at hP
        rw [hn2] at OS ⊢
        clear hlt VI RB hlen
        go_wp2
        go_ret
        exact ⟨aI, cI, _, by rw [hn]; rfl, hP, by rw [hn]; exact OS, B⟩

end Go.Proofs.Ytjfbbfmnghccdaa
