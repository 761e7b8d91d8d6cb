/- The method number of lex's machine. -/
import Derived.Test.YtmoimmghmmomlaaDoorLx4
import Derived.Test.YtmoimmghmmomlaaDoorShelfL
import Derived.Shelf.Strconv.ParseIntPublic10
namespace Go.Proofs.YtmoimmghmmomlaaDoor
open Go.RowKit Go.BigFrame Go.Shelf
set_option linter.unusedVariables false
set_option linter.unusedSimpArgs false

/-- The library's variable ErrRange holds an error. -/
def ErAt (w : World) : Prop := ∃ te pe, w.cell? ⟨8, 0, none⟩ = some (.iface te pe)
theorem ErAt.keep {w u : World} (h : ErAt w) (G : Below w.heap.size w u) : ErAt u := by
  obtain ⟨te, pe, h⟩ := h
  exact ⟨te, pe, (G.cell (p := ⟨_, 0, none⟩) (lt_of_cell h)).trans h⟩

/-- What ParseInt comes to at digits alone: a number or none. -/
theorem parseInt_ok (x : ByteArray) (hs : x.size ≤ 8192) (v : Int) (h : Lib.parseIntB 64 x.data.toList = .ok v) (w : World) :
    Calls Tryd.prog 64 #[.string x, .int .i64 10, .int .i64 64] w fun e w' => e = .returned (.tuple #[.int .i64 v, .nilIface]) ∧ Below w.heap.size w w' :=
  (Any.strconv_ParseInt_10_at64_ok laysC_n174 x (by omega) v h w).mono fun e w' ⟨he, hw⟩ => ⟨he, by
    rcases hw with rfl | ⟨t, rfl⟩
    · exact Below.refl _ _
    · exact Lib.bytesWorld_below _ _ _⟩
theorem parseInt_range (x : ByteArray) (hs : x.size ≤ 8192) (h : Lib.parseIntB 64 x.data.toList = .range) (w : World) (E : ErAt w) :
    Calls Tryd.prog 64 #[.string x, .int .i64 10, .int .i64 64] w fun e w' => (∃ n te pe, e = .returned (.tuple #[.int .i64 n, .iface te pe])) ∧ Below w.heap.size w w' := by
  obtain ⟨te, pe, hE⟩ := E
  exact (Any.strconv_ParseInt_10_at64_range laysC_n174 x (by omega) h _ w hE (.inr ⟨te, pe, rfl⟩)).mono fun e w' ⟨N, he, _, _, hb⟩ => ⟨⟨_, _, _, he⟩, hb⟩

def digL (l : List UInt8) : Prop := ∀ c ∈ l, 48 ≤ c.toNat ∧ c.toNat ≤ 57
theorem uintM_dig (M : Nat) (l : List UInt8) : ∀ acc, digL l → Lib.parseUintM M acc l ≠ .«syntax» := by
  induction l with
  | nil => intro acc _ h; cases h
  | cons c r ih =>
    intro acc h h1
    have hc := h c (by simp)
    unfold Lib.parseUintM at h1
    rw [if_pos hc] at h1
    split at h1
    · cases h1
    · split at h1
      · cases h1
      · exact ih _ (fun d hd => h d (by simp [hd])) h1
theorem intB_dig (l : List UInt8) (h0 : l ≠ []) (h : digL l) : Lib.parseIntB 64 l ≠ .«syntax» := by
  cases l with
  | nil => exact absurd rfl h0
  | cons c r =>
    have hc := h c (by simp)
    intro h1
    unfold Lib.parseIntB at h1
    simp only [if_neg (show ¬ (c.toNat = 43 ∨ c.toNat = 45) by omega)] at h1
    unfold Lib.parseUintB at h1
    rw [if_neg h0] at h1
    have h2 := uintM_dig (2 ^ 64 - 1) (c :: r) 0 h
    cases h3 : Lib.parseUintM (2 ^ 64 - 1) 0 (c :: r) with
    | «syntax» => exact h2 h3
    | range => rw [h3] at h1; cases h1
    | ok u =>
      rw [h3] at h1
      simp only at h1
      split at h1
      · cases h1
      · split at h1 <;> cases h1
/-- What the method number answers. -/
def numV (x : ByteArray) : Option Int := match Lib.parseIntB 64 x.data.toList with | .ok v => some v | _ => none
def numT (s : ByteArray) (bg pos : Nat) : Tok × Int := if pos < s.size ∧ ltB (bt s pos) = true then (noTok, 32) else match numV (s.extract bg pos) with | some v => (⟨2, ⟨#[]⟩, v, bg⟩, 0) | none => (noTok, 32)

set_option maxRecDepth 100000 in
set_option maxHeartbeats 4000000 in
theorem mnumber_any (b : Nat) (s : ByteArray) (bg pos : Nat) (tk : Value) (w : World) (M : Mach w b s bg pos tk) (hp : pos ≤ s.size) (hb : bg < pos) (hs : s.size ≤ 8192) (hd : digL (s.extract bg pos).data.toList) (K : ErAt w) :
    Calls Tryd.prog 41 #[.pointer (some ⟨b, 0, none⟩)] w fun e w' => e = .returned (.tuple #[.agg (tokA (numT s bg pos).1), .int .i64 (numT s bg pos).2]) ∧ Below w.heap.size w w' := by
  obtain ⟨z, hz⟩ : ∃ z, z = numT s bg pos := ⟨_, rfl⟩
  rw [← hz]
  have HZ : Hid (z = numT s bg pos) := hz
  clear hz
  have i0 : (pos : Int) ≤ (s.size : Int) := by omega
  have i1 : (bg : Int) ≤ (pos : Int) := by omega
  have hne0 : (s.extract bg pos).data.toList ≠ [] := fun e => by
    have h5 := congrArg List.length e
    have h6 : (s.extract bg pos).size = 0 := h5
    rw [ByteArray.size_extract] at h6
    omega
  have B := galloc (Below.refl w.heap.size w) (.cells (tokA noTok) 79)
  have R := TokAt.new w noTok
  go_enter Tryd.func41, Tryd.ntmps41
  go_upto_region 1 with fail
  replace M := M.keep B
  replace K := K.keep B
  generalize hV : w.alloc (.cells (tokA noTok) 79) = V at B R M K
  rw [show w.alloc (.cells #[.int .i64 0, .string ⟨#[]⟩, .int .i64 0, .int .i64 0] 79) = V from hV]
  clear hV
  have p0 := fun z : Ext V => (z.cell _ _ M.lt).trans M.at.1
  have p1 := fun z : Ext V => (z.cell _ _ M.lt).trans M.at.2.1
  have p2 := fun z : Ext V => (z.cell _ _ M.lt).trans M.at.2.2.1
  have p3 := fun z : Ext V => (z.cell _ _ M.lt).trans M.at.2.2.2
  have hne : Nonempty (Ext V) := ⟨⟨_, Below.refl _ _⟩⟩
  have yE : ∀ z : Ext V, Calls Tryd.prog 36 #[.pointer (some ⟨b, 0, none⟩)] z.X (fun e' w'' => e' = .returned (.bool ((pos : Int) == (s.size : Int))) ∧ ∃ m : Ext V, w'' = m.X) := fun z => ext_of (atEnd_any b s bg pos tk z.X (M.keep z.h))
  have yL : ∀ z : Ext V, Calls Tryd.prog 61 #[.int .u8 (bt s pos)] z.X (fun e' w'' => e' = .returned (.bool (ltB (bt s pos))) ∧ ∃ m : Ext V, w'' = m.X) := fun z => ext_of ((beginsWord_any _ z.X).mono fun e u ⟨he, hu⟩ => ⟨he, hu ▸ Below.refl _ _⟩)
  cases hend : ((pos : Int) == (s.size : Int))
  · have hlt : pos < s.size := by simp only [beq_eq_false_iff_ne] at hend; omega
    have j1 := byteW s pos hlt Tryd.prog 9 (by kernel_rfl)
    rw [show ((s.data.getD pos 0).toNat : Int) = bt s pos from rfl] at j1
    rw [hend] at yE
    cases hl : ltB (bt s pos)
    · rw [hl] at yL
      have HZ2 : Hid (z = match numV (s.extract bg pos) with | some v => (⟨2, ⟨#[]⟩, v, bg⟩, 0) | none => (noTok, 32)) := by show _ = _; rw [HZ.out]; unfold numT; rw [if_neg (by rw [hl]; simp)]
      generalize hbt : bt s pos = nb at *
      refine wp_region_ext (by kernel_rfl) (by kernel_rfl) ?_
      repeat (go_big_quiet_step (first | (go_at_call 36; with_reducible exact yE _) | (go_at_call 61; with_reducible exact yL _)))
      refine wpQuiet_nil ?_
      intro _ hw'
      obtain ⟨nx1, hw''⟩ := hw'
      subst hw''
      replace M := M.keep nx1.h
      replace K := K.keep nx1.h
      replace R := R.keep nx1.h
      have hB := gtrans B nx1.h
      generalize nx1.X = X at M K R hB ⊢
      clear hne p0 p1 p2 p3 nx1
      clear yE yL
      have hE2 : z = match numV (s.extract bg pos) with | some v => (⟨2, ⟨#[]⟩, v, bg⟩, 0) | none => (noTok, 32) := HZ2.out
      clear HZ HZ2
      have hnd := intB_dig _ hne0 hd
      have hxs : (s.extract bg pos).size ≤ 8192 := by rw [ByteArray.size_extract]; omega
      unfold numV at hE2
      cases hv : Lib.parseIntB 64 (s.extract bg pos).data.toList with
      | «syntax» => exact absurd hv hnd
      | ok v =>
        rw [hv] at hE2
        simp only at hE2
        subst hE2
        have p0 := fun z : Ext X => (z.cell _ _ M.lt).trans M.at.1
        have p1 := fun z : Ext X => (z.cell _ _ M.lt).trans M.at.2.1
        have p2 := fun z : Ext X => (z.cell _ _ M.lt).trans M.at.2.2.1
        have p3 := fun z : Ext X => (z.cell _ _ M.lt).trans M.at.2.2.2
        have hne : Nonempty (Ext X) := ⟨⟨_, Below.refl _ _⟩⟩
        have y1 : ∀ z : Ext X, Calls Tryd.prog 64 #[.string (s.extract bg pos), .int .i64 10, .int .i64 64] z.X (fun e' w'' => e' = .returned (.tuple #[.int .i64 v, .nilIface]) ∧ ∃ m : Ext X, w'' = m.X) := fun z => ext_of (parseInt_ok _ hxs v hv z.X)
        go_wp2
        refine wp_region_ext (by kernel_rfl) (by kernel_rfl) ?_
        repeat (go_big_quiet_step (first | (go_at_call 64; with_reducible exact y1 _)))
        refine wpQuiet_nil ?_
        intro _ hw'
        obtain ⟨nx3, hw''⟩ := hw'
        subst hw''
        have R3 := R.keep nx3.h
        have m1 := (M.keep nx3.h).at.2.1
        obtain ⟨r0, r1, r2, r3⟩ := R3.at
        have rf := R3.free
        go_wp2
        (try simp only [Exit.inBlock, Exit.then])
        refine bodyPost_ret (results_row_tmp rfl _ _ w.heap.size 79 (tokA ⟨2, ⟨#[]⟩, v, bg⟩) (0, 0) _ rfl (R3.set4 _ _ _ _) Tryd.underlying79 rfl infoTok) rfl ⟨rfl, set4B (gtrans hB nx3.h) _ _ _ _⟩
      | range =>
        rw [hv] at hE2
        simp only at hE2
        subst hE2
        have cR := fun Z (hZ : ErAt Z) => parseInt_range _ hxs hv Z hZ
        have K3 : ErAt X.drew := K.keep (Below.refl _ _).drew
        obtain ⟨m0, m1, m2, m3⟩ := M.at
        go_wp2
        go_region_with (go_at_call 64; with_reducible refine (cR _ K3).mono ?_; rintro e u ⟨⟨n5, te, pe, rfl⟩, g⟩; have R3 := R.keep (gtrans (Below.refl X.heap.size X).drew g); obtain ⟨r0, r1, r2, r3⟩ := R3.at; have rf := R3.free)
        all_goals
          go_wp2
          (try simp only [Exit.inBlock, Exit.then])
          refine bodyPost_ret (results_row_tmp rfl _ _ w.heap.size 79 (tokA noTok) (0, 0) _ rfl (R3.set4 _ _ _ _) Tryd.underlying79 rfl infoTok) rfl ⟨rfl, set4B (gtrans hB (gtrans (Below.refl X.heap.size X).drew g)) _ _ _ _⟩
    · have hz : z = (noTok, 32) := by rw [HZ.out]; unfold numT; rw [if_pos ⟨hlt, hl⟩]
      subst hz
      rw [hl] at yL
      generalize hbt : bt s pos = nb at *
      refine wp_region_ext (by kernel_rfl) (by kernel_rfl) ?_
      repeat (go_big_quiet_step (first | (go_at_call 36; with_reducible exact yE _) | (go_at_call 61; with_reducible exact yL _)))
      refine wpQuiet_nil ?_
      intro _ hw'
      obtain ⟨nx1, hw''⟩ := hw'
      subst hw''
      replace M := M.keep nx1.h
      replace K := K.keep nx1.h
      replace R := R.keep nx1.h
      have hB := gtrans B nx1.h
      generalize nx1.X = X at M K R hB ⊢
      clear hne p0 p1 p2 p3 nx1
      obtain ⟨r0, r1, r2, r3⟩ := R.at
      have rf := R.free
      clear yE yL
      go_wp2
      (try simp only [Exit.inBlock, Exit.then])
      refine bodyPost_ret (results_row_tmp rfl _ _ w.heap.size 79 (tokA noTok) (0, 0) _ rfl (R.set4 _ _ _ _) Tryd.underlying79 rfl infoTok) rfl ⟨rfl, set4B hB _ _ _ _⟩
  · rw [hend] at yE
    have HZ2 : Hid (z = match numV (s.extract bg pos) with | some v => (⟨2, ⟨#[]⟩, v, bg⟩, 0) | none => (noTok, 32)) := by show _ = _; rw [HZ.out]; unfold numT; rw [if_neg (by simp only [beq_iff_eq] at hend; omega)]
    refine wp_region_ext (by kernel_rfl) (by kernel_rfl) ?_
    repeat (go_big_quiet_step (first | (go_at_call 36; with_reducible exact yE _) | (go_at_call 61; with_reducible exact yL _)))
    refine wpQuiet_nil ?_
    intro _ hw'
    obtain ⟨nx1, hw''⟩ := hw'
    subst hw''
    replace M := M.keep nx1.h
    replace K := K.keep nx1.h
    replace R := R.keep nx1.h
    have hB := gtrans B nx1.h
    generalize nx1.X = X at M K R hB ⊢
    clear hne p0 p1 p2 p3 nx1
    clear yE yL
    have hE2 : z = match numV (s.extract bg pos) with | some v => (⟨2, ⟨#[]⟩, v, bg⟩, 0) | none => (noTok, 32) := HZ2.out
    clear HZ HZ2
    have hnd := intB_dig _ hne0 hd
    have hxs : (s.extract bg pos).size ≤ 8192 := by rw [ByteArray.size_extract]; omega
    unfold numV at hE2
    cases hv : Lib.parseIntB 64 (s.extract bg pos).data.toList with
    | «syntax» => exact absurd hv hnd
    | ok v =>
      rw [hv] at hE2
      simp only at hE2
      subst hE2
      have p0 := fun z : Ext X => (z.cell _ _ M.lt).trans M.at.1
      have p1 := fun z : Ext X => (z.cell _ _ M.lt).trans M.at.2.1
      have p2 := fun z : Ext X => (z.cell _ _ M.lt).trans M.at.2.2.1
      have p3 := fun z : Ext X => (z.cell _ _ M.lt).trans M.at.2.2.2
      have hne : Nonempty (Ext X) := ⟨⟨_, Below.refl _ _⟩⟩
      have y1 : ∀ z : Ext X, Calls Tryd.prog 64 #[.string (s.extract bg pos), .int .i64 10, .int .i64 64] z.X (fun e' w'' => e' = .returned (.tuple #[.int .i64 v, .nilIface]) ∧ ∃ m : Ext X, w'' = m.X) := fun z => ext_of (parseInt_ok _ hxs v hv z.X)
      go_wp2
      refine wp_region_ext (by kernel_rfl) (by kernel_rfl) ?_
      repeat (go_big_quiet_step (first | (go_at_call 64; with_reducible exact y1 _)))
      refine wpQuiet_nil ?_
      intro _ hw'
      obtain ⟨nx3, hw''⟩ := hw'
      subst hw''
      have R3 := R.keep nx3.h
      have m1 := (M.keep nx3.h).at.2.1
      obtain ⟨r0, r1, r2, r3⟩ := R3.at
      have rf := R3.free
      go_wp2
      (try simp only [Exit.inBlock, Exit.then])
      refine bodyPost_ret (results_row_tmp rfl _ _ w.heap.size 79 (tokA ⟨2, ⟨#[]⟩, v, bg⟩) (0, 0) _ rfl (R3.set4 _ _ _ _) Tryd.underlying79 rfl infoTok) rfl ⟨rfl, set4B (gtrans hB nx3.h) _ _ _ _⟩
    | range =>
      rw [hv] at hE2
      simp only at hE2
      subst hE2
      have cR := fun Z (hZ : ErAt Z) => parseInt_range _ hxs hv Z hZ
      have K3 : ErAt X.drew := K.keep (Below.refl _ _).drew
      obtain ⟨m0, m1, m2, m3⟩ := M.at
      go_wp2
      go_region_with (go_at_call 64; with_reducible refine (cR _ K3).mono ?_; rintro e u ⟨⟨n5, te, pe, rfl⟩, g⟩; have R3 := R.keep (gtrans (Below.refl X.heap.size X).drew g); obtain ⟨r0, r1, r2, r3⟩ := R3.at; have rf := R3.free)
      all_goals
        go_wp2
        (try simp only [Exit.inBlock, Exit.then])
        refine bodyPost_ret (results_row_tmp rfl _ _ w.heap.size 79 (tokA noTok) (0, 0) _ rfl (R3.set4 _ _ _ _) Tryd.underlying79 rfl infoTok) rfl ⟨rfl, set4B (gtrans hB (gtrans (Below.refl X.heap.size X).drew g)) _ _ _ _⟩


end Go.Proofs.YtmoimmghmmomlaaDoor
