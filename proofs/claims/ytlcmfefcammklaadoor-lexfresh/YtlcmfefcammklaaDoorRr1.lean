/- The document's roles of bytes: what its functions come to. -/
import Derived.Test.YtlcmfefcammklaaDoorRf0
import Derived.Deep.OwnRows
namespace Go.Proofs.YtlcmfefcammklaaDoor
open Go.RowKit Go.BigFrame
set_option linter.unusedVariables false
set_option linter.unusedSimpArgs false

theorem infoInt : (Tryd.prog.info? 3).map (fun i => (i.zero, i.size, i.bytes)) = some (some (.int .i64 0), 1, 8) := by kernel_rfl
def rolV (s : ByteArray) : Nat → Value := fun i => .int .i64 (roleI s i)
theorem row_keep {w u : World} {b : Nat} {t : TypeId} {n : Nat} {f : Nat → Value} (h : w.rowIs b t n f) (G : Below w.heap.size w u) : u.rowIs b t n f := h.of_block (G.block b h.lt)
theorem role_done {s : ByteArray} {w : World} {g n k : Nat} {r : Int} (hr : roleI s k = r) (h : w.rowIs g 3 n (fun j => .int .i64 (if j < k then roleI s j else 0))) : (w.setCell ⟨g, k, none⟩ (.int .i64 r)).rowIs g 3 n (fun j => .int .i64 (if j < k + 1 then roleI s j else 0)) :=
  (h.set k (.int .i64 r)).congr fun j hj => by
    by_cases e : j = k
    · subst e; rw [if_pos rfl, if_pos (by omega), hr]
    · rw [if_neg e]
      by_cases h1 : j < k
      · rw [if_pos h1, if_pos (by omega)]
      · rw [if_neg h1, if_neg (by omega)]

set_option maxRecDepth 100000 in
set_option maxHeartbeats 4000000 in
theorem refRoles_any (s : ByteArray) (hs : s.size ≤ 8192) (w : World) (K : SrAt w) :
    Calls Tryd.prog 24 #[.string s] w fun e w' => ∃ g, e = .returned (.slice (some ⟨g, 0, none⟩) s.size s.size) ∧ w.heap.size ≤ g ∧ w'.rowIs g 3 s.size (rolV s) ∧ Below w.heap.size w w' := by
  obtain ⟨n, hn⟩ : ∃ n, s.size = n := ⟨_, rfl⟩
  have hby := fun t h => byteW s t h Tryd.prog 9 (by kernel_rfl)
  have hmk := run_make_row' (P := Tryd.prog) 56 3 (.int .i64 0) 8 Tryd.underlying56 infoInt rfl .i64 .i64 s.size (by omega) (by omega)
  rw [hn] at hs hmk ⊢
  go_enter Tryd.func24, Tryd.ntmps24
  go_wp2
  have R0 := World.rowIs_made w (.int .i64 0) n 3
  have G0 := galloc (Below.refl w.heap.size w) (.cells (madeCells #[.int .i64 0] n) 3)
  go_loopw [4, 5] (fun cm i wr => ∃ k : Nat, k ≤ n ∧ i = .int .i64 k ∧ cm = .bool (comB s k) ∧ wr.rowIs w.heap.size 3 n (fun j => .int .i64 (if j < k then roleI s j else 0)) ∧ Below w.heap.size w wr) (fun _ i _ => n - (intOf i).toNat)
  case atStart => exact ⟨0, Nat.zero_le _, rfl, rfl, R0.congr (fun j _ => by simp), G0⟩
  case round =>
    obtain ⟨k, hk, rfl, rfl, R, G⟩ := hrel
    by_cases hlt : k < n
    · have i1 := hby k (by omega)
      rw [show ((s.data.getD k 0).toNat : Int) = bt s k from rfl] at i1
      have rf := R.frozen k
      have hk1 : (k : Int) + 1 ≤ (s.size : Int) := by omega
      have kc := R.cell (i := k) hlt
      clear hby hmk
      have cS := fun u (h : SrAt u) => refSign_any (s.extract k (k + 1)) u h
      obtain ⟨sk, hsk⟩ : ∃ sk, sgK (s.extract k (k + 1)) = sk := ⟨_, rfl⟩
      rw [hsk] at cS
      obtain ⟨nb, hnb⟩ : ∃ nb, bt s k = nb := ⟨_, rfl⟩
      rw [hnb] at i1
      have HN : Hid (s.size = n) := hn
      have cL := refLetter_any nb
      have cD := refDigit_any nb
      by_cases a10 : nb = 10
      · subst a10
        have hnx : comB s (k + 1) = false := by unfold comB; rw [hnb]; rfl
        have hro : roleI s k = 0 := by unfold roleI; rw [hnx, hnb]; rfl
        have R1 := role_done hro R
        go_wp2_with (first
          | (go_at_call 38; with_reducible refine (cL _).mono ?_; rintro e u ⟨rfl, rfl⟩)
          | (go_at_call 39; with_reducible refine (cD _).mono ?_; rintro e u ⟨rfl, rfl⟩)
          | (go_at_call 40; with_reducible refine (cS _ (K.keep G)).mono ?_; rintro e u ⟨rfl, rfl⟩))
        go_roundw
        case rel => exact ⟨k + 1, by omega, by go_num, by rw [hnx], R1, gset G (Nat.le_refl _) _⟩
        case measure => simp [intOf]; omega
      by_cases a35 : nb = 35
      · subst a35
        have hnx : comB s (k + 1) = true := by unfold comB; rw [hnb]; rfl
        have hro : roleI s k = 0 := by unfold roleI; rw [hnx]; simp
        have R1 := role_done hro R
        go_wp2_with (first
          | (go_at_call 38; with_reducible refine (cL _).mono ?_; rintro e u ⟨rfl, rfl⟩)
          | (go_at_call 39; with_reducible refine (cD _).mono ?_; rintro e u ⟨rfl, rfl⟩)
          | (go_at_call 40; with_reducible refine (cS _ (K.keep G)).mono ?_; rintro e u ⟨rfl, rfl⟩))
        go_roundw
        case rel => exact ⟨k + 1, by omega, by go_num, by rw [hnx], R1, gset G (Nat.le_refl _) _⟩
        case measure => simp [intOf]; omega
      have q10 : (nb == 10) = false := by simpa using a10
      have q35 : (nb == 35) = false := by simpa using a35
      have hcm : comB s (k + 1) = comB s k := by
        show (if bt s k = 10 then false else if bt s k = 35 then true else comB s k) = _
        rw [hnb, if_neg a10, if_neg a35]
      cases hc : comB s k
      · rw [hc] at hcm
        by_cases a32 : nb = 32
        · subst a32
          have hnx : comB s (k + 1) = false := by exact hcm
          have hro : roleI s k = 0 := by unfold roleI; rw [hnx, hnb]; rfl
          have R1 := role_done hro R
          go_wp2_with (first
          | (go_at_call 38; with_reducible refine (cL _).mono ?_; rintro e u ⟨rfl, rfl⟩)
          | (go_at_call 39; with_reducible refine (cD _).mono ?_; rintro e u ⟨rfl, rfl⟩)
          | (go_at_call 40; with_reducible refine (cS _ (K.keep G)).mono ?_; rintro e u ⟨rfl, rfl⟩))
          go_roundw
          case rel => exact ⟨k + 1, by omega, by go_num, by rw [hnx], R1, gset G (Nat.le_refl _) _⟩
          case measure => simp [intOf]; omega
        by_cases a9 : nb = 9
        · subst a9
          have hnx : comB s (k + 1) = false := by exact hcm
          have hro : roleI s k = 0 := by unfold roleI; rw [hnx, hnb]; rfl
          have R1 := role_done hro R
          go_wp2_with (first
          | (go_at_call 38; with_reducible refine (cL _).mono ?_; rintro e u ⟨rfl, rfl⟩)
          | (go_at_call 39; with_reducible refine (cD _).mono ?_; rintro e u ⟨rfl, rfl⟩)
          | (go_at_call 40; with_reducible refine (cS _ (K.keep G)).mono ?_; rintro e u ⟨rfl, rfl⟩))
          go_roundw
          case rel => exact ⟨k + 1, by omega, by go_num, by rw [hnx], R1, gset G (Nat.le_refl _) _⟩
          case measure => simp [intOf]; omega
        by_cases a13 : nb = 13
        · subst a13
          have hnx : comB s (k + 1) = false := by exact hcm
          have hro : roleI s k = 0 := by unfold roleI; rw [hnx, hnb]; rfl
          have R1 := role_done hro R
          go_wp2_with (first
          | (go_at_call 38; with_reducible refine (cL _).mono ?_; rintro e u ⟨rfl, rfl⟩)
          | (go_at_call 39; with_reducible refine (cD _).mono ?_; rintro e u ⟨rfl, rfl⟩)
          | (go_at_call 40; with_reducible refine (cS _ (K.keep G)).mono ?_; rintro e u ⟨rfl, rfl⟩))
          go_roundw
          case rel => exact ⟨k + 1, by omega, by go_num, by rw [hnx], R1, gset G (Nat.le_refl _) _⟩
          case measure => simp [intOf]; omega
        have q32 : (nb == 32) = false := by simpa using a32
        have q9 : (nb == 9) = false := by simpa using a9
        have q13 : (nb == 13) = false := by simpa using a13
        have hbl : blB nb = false := by simp only [blB, decide_eq_false_iff_not]; omega
        cases hl : ltB nb
        · cases hd : dgB nb
          · rw [hl] at cL
            rw [hd] at cD
            cases hq : (sk == 0)
            · have hq' : sk ≠ 0 := by simpa using hq
              have hnx : comB s (k + 1) = false := by exact hcm
              have hro : roleI s k = 2 := by unfold roleI wdB; rw [hnx, hnb, hbl, hl, hd, hsk]; simp [hq']
              have R1 := role_done hro R
              go_wp2_with (first
          | (go_at_call 38; with_reducible refine (cL _).mono ?_; rintro e u ⟨rfl, rfl⟩)
          | (go_at_call 39; with_reducible refine (cD _).mono ?_; rintro e u ⟨rfl, rfl⟩)
          | (go_at_call 40; with_reducible refine (cS _ (K.keep G)).mono ?_; rintro e u ⟨rfl, rfl⟩))
              go_roundw
              case rel => exact ⟨k + 1, by omega, by go_num, by rw [hnx], R1, gset G (Nat.le_refl _) _⟩
              case measure => simp [intOf]; omega
            · have hq' : sk = 0 := by simpa using hq
              have hnx : comB s (k + 1) = false := by exact hcm
              have hro : roleI s k = 3 := by unfold roleI wdB; rw [hnx, hnb, hbl, hl, hd, hsk]; simp [hq']
              have R1 := role_done hro R
              go_wp2_with (first
          | (go_at_call 38; with_reducible refine (cL _).mono ?_; rintro e u ⟨rfl, rfl⟩)
          | (go_at_call 39; with_reducible refine (cD _).mono ?_; rintro e u ⟨rfl, rfl⟩)
          | (go_at_call 40; with_reducible refine (cS _ (K.keep G)).mono ?_; rintro e u ⟨rfl, rfl⟩))
              go_roundw
              case rel => exact ⟨k + 1, by omega, by go_num, by rw [hnx], R1, gset G (Nat.le_refl _) _⟩
              case measure => simp [intOf]; omega
          · rw [hl] at cL
            rw [hd] at cD
            have hnx : comB s (k + 1) = false := by exact hcm
            have hro : roleI s k = 1 := by unfold roleI wdB; rw [hnx, hnb, hbl, hl, hd]; rfl
            have R1 := role_done hro R
            go_wp2_with (first
          | (go_at_call 38; with_reducible refine (cL _).mono ?_; rintro e u ⟨rfl, rfl⟩)
          | (go_at_call 39; with_reducible refine (cD _).mono ?_; rintro e u ⟨rfl, rfl⟩)
          | (go_at_call 40; with_reducible refine (cS _ (K.keep G)).mono ?_; rintro e u ⟨rfl, rfl⟩))
            go_roundw
            case rel => exact ⟨k + 1, by omega, by go_num, by rw [hnx], R1, gset G (Nat.le_refl _) _⟩
            case measure => simp [intOf]; omega
        · rw [hl] at cL
          have hnx : comB s (k + 1) = false := by exact hcm
          have hro : roleI s k = 1 := by unfold roleI wdB; rw [hnx, hnb, hbl, hl]; rfl
          have R1 := role_done hro R
          go_wp2_with (first
          | (go_at_call 38; with_reducible refine (cL _).mono ?_; rintro e u ⟨rfl, rfl⟩)
          | (go_at_call 39; with_reducible refine (cD _).mono ?_; rintro e u ⟨rfl, rfl⟩)
          | (go_at_call 40; with_reducible refine (cS _ (K.keep G)).mono ?_; rintro e u ⟨rfl, rfl⟩))
          go_roundw
          case rel => exact ⟨k + 1, by omega, by go_num, by rw [hnx], R1, gset G (Nat.le_refl _) _⟩
          case measure => simp [intOf]; omega
      · rw [hc] at hcm
        have hnx : comB s (k + 1) = true := by exact hcm
        have hro : roleI s k = 0 := by unfold roleI; rw [hnx]; simp
        have R1 := role_done hro R
        go_wp2_with (first
          | (go_at_call 38; with_reducible refine (cL _).mono ?_; rintro e u ⟨rfl, rfl⟩)
          | (go_at_call 39; with_reducible refine (cD _).mono ?_; rintro e u ⟨rfl, rfl⟩)
          | (go_at_call 40; with_reducible refine (cS _ (K.keep G)).mono ?_; rintro e u ⟨rfl, rfl⟩))
        go_roundw
        case rel => exact ⟨k + 1, by omega, by go_num, by rw [hnx], R1, gset G (Nat.le_refl _) _⟩
        case measure => simp [intOf]; omega
    · obtain rfl : k = n := by omega
      go_wp2
      go_ret
      exact ⟨w.heap.size, rfl, Nat.le_refl _, R.congr (fun j hj => by rw [if_pos hj]; rfl), G⟩

end Go.Proofs.YtlcmfefcammklaaDoor
