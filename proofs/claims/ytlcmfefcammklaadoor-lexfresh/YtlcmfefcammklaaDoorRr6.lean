/- The document's token. -/
import Derived.Test.YtlcmfefcammklaaDoorRr5
namespace Go.Proofs.YtlcmfefcammklaaDoor
open Go.RowKit Go.BigFrame
set_option linter.unusedVariables false
set_option linter.unusedSimpArgs false

def digT (x : ByteArray) (a : Nat) : Tok × Int := match numR x with | some v => (⟨2, ⟨#[]⟩, v, a⟩, 0) | none => (⟨0, ⟨#[]⟩, 0, a⟩, 32)
theorem two0 (w : World) (A B : Array Value) (t u : TypeId) : ((w.alloc (.cells A t)).alloc (.cells B u)).heap[w.heap.size]? = some (.cells A t (0, 0)) := by
  show ((w.heap.push _).push _)[w.heap.size]? = _
  rw [Array.getElem?_push_lt (by simp)]
  simp
theorem two1 (w : World) (A B : Array Value) (t u : TypeId) : ((w.alloc (.cells A t)).alloc (.cells B u)).heap[w.heap.size + 1]? = some (.cells B u (0, 0)) := by
  have h : (w.alloc (.cells A t)).heap.size = w.heap.size + 1 := by simp
  rw [← h]
  show ((w.alloc (.cells A t)).heap.push _)[(w.alloc (.cells A t)).heap.size]? = _
  exact Array.getElem?_push_size
theorem cells4 {w : World} {b : Nat} {t : TypeId} {v0 v1 v2 v3 : Value} (h : w.heap[b]? = some (.cells #[v0, v1, v2, v3] t (0, 0))) : w.cell? ⟨b, 0, none⟩ = some v0 ∧ w.cell? ⟨b, 1, none⟩ = some v1 ∧ w.cell? ⟨b, 2, none⟩ = some v2 ∧ w.cell? ⟨b, 3, none⟩ = some v3 := by
  refine ⟨?_, ?_, ?_, ?_⟩ <;> simp [World.cell?, h]
theorem free4 {w : World} {b : Nat} {t : TypeId} {A : Array Value} (h : w.heap[b]? = some (.cells A t (0, 0))) (o : Nat) : w.frozen? ⟨b, o, none⟩ = false := by
  simp [World.frozen?, h]
theorem lt0 (w : World) (A B : Obj) : w.heap.size < ((w.alloc A).alloc B).heap.size := by
  have h : ((w.alloc A).alloc B).heap.size = w.heap.size + 1 + 1 := by simp
  omega
theorem lt1 (w : World) (A B : Obj) : w.heap.size + 1 < ((w.alloc A).alloc B).heap.size := by
  have h : ((w.alloc A).alloc B).heap.size = w.heap.size + 1 + 1 := by simp
  omega
theorem two0B (w : World) (A B : Obj) : Below w.heap.size w ((w.alloc A).alloc B) := galloc (galloc (Below.refl _ _) _) _

set_option maxRecDepth 100000 in
set_option maxHeartbeats 8000000 in
theorem refToken_any (x : ByteArray) (role : Int) (a : Nat) (hx : 0 < x.size) (hxs : x.size ≤ 8192) (ha : a ≤ 8192) (w : World) (K : SrAt w) (Kr : KrAt w) :
    Calls Tryd.prog 27 #[.string x, .int .i64 role, .int .i64 (a : Int)] w fun e w' => e = .returned (.tuple #[.agg (tokA (tokT x role a).1), .int .i64 (tokT x role a).2]) ∧ Below w.heap.size w w' := by
  obtain ⟨z, hz⟩ : ∃ z, z = tokT x role a := ⟨_, rfl⟩
  rw [← hz]
  have HZ : Hid (z = tokT x role a) := hz
  clear hz
  have i1 : ∀ u : World, (Instr.index 9 (.string x) (.int .i64 0)).run Tryd.prog u = .ok (.int .u8 (bt x 0)) u := byteW x 0 hx Tryd.prog 9 (by kernel_rfl)
  have cS : ∀ u, Below w.heap.size w u → Calls Tryd.prog 40 #[.string x] u fun e w' => e = .returned (.int .i64 (sgK x)) ∧ u = w' := fun u g => refSign_any x u (K.keep g)
  have cN := refNumber_any x hxs
  have cD := refDigit_any (bt x 0)
  have cW : ∀ u, Below w.heap.size w u → Calls Tryd.prog 43 #[.string x] u fun e w' => e = .returned (.int .i64 (wordI x)) ∧ Below u.heap.size u w' := fun u g => refWord_any x (by omega) u (Kr.keep g)
  cases h3 : (role == 3)
  · cases h2 : (role == 2)
    · have hr3 : ¬ role = 3 := by simpa using h3
      have hr2 : ¬ role = 2 := by simpa using h2
      have HZ2 : Hid (z = if dgB (bt x 0) = true then digT x a else if 16 < x.size then ((⟨0, ⟨#[]⟩, 0, a⟩ : Tok), (33 : Int)) else ((⟨wordI x, if wordI x = 1 then x else ⟨#[]⟩, 0, a⟩ : Tok), (0 : Int))) := by
        show _ = _
        rw [HZ.out]
        unfold tokT
        rw [if_neg hr3, if_neg hr2]
        rfl
      clear HZ
      cases hd : dgB (bt x 0)
      · rw [hd] at cD HZ2
        generalize bt x 0 = nb at *
        by_cases h16 : 16 < x.size
        · have he : Hid (z = (⟨0, ⟨#[]⟩, 0, a⟩, 33)) := by show _ = _; rw [HZ2.out, if_neg (by simp), if_pos h16]
          have h16' : (16 : Int) < (x.size : Int) := by omega
          clear HZ2 cS cN cW
          go_enter Tryd.func27, Tryd.ntmps27
          go_wp2_with (go_at_call 39; with_reducible refine (cD _).mono ?_; rintro e u ⟨rfl, rfl⟩)
          (try simp only [Exit.inBlock, Exit.then])
          refine bodyPost_ret (results_row_tmp rfl _ _ w.heap.size 30 (tokA ⟨0, ⟨#[]⟩, 0, a⟩) (0, 0) _ rfl (two0 w _ _ _ _) Tryd.underlying30 rfl infoTok) rfl ⟨by rw [he.out]; rfl, two0B w _ _⟩
        · cases hw1 : (wordI x == 1)
          · have he : Hid (z = (⟨wordI x, ⟨#[]⟩, 0, a⟩, 0)) := by show _ = _; rw [HZ2.out, if_neg (by simp), if_neg h16, if_neg (show ¬ wordI x = 1 by simpa using hw1)]
            have h16' : (x.size : Int) ≤ 16 := by omega
            clear HZ2 cS cN
            generalize wordI x = wi at *
            go_enter Tryd.func27, Tryd.ntmps27
            go_wp2_with (first
              | (go_at_call 39; with_reducible refine (cD _).mono ?_; rintro e u ⟨rfl, rfl⟩)
              | (go_at_call 43; with_reducible refine (cW _ (two0B w _ _)).mono ?_; rintro e u ⟨rfl, g⟩; have R5 := (g.block w.heap.size (lt0 w _ _)).trans (two0 w _ _ _ _); have T5 := (g.block (w.heap.size + 1) (lt1 w _ _)).trans (two1 w _ _ _ _); obtain ⟨t0, t1, t2, t3⟩ := cells4 T5; obtain ⟨r0, r1, r2, r3⟩ := cells4 R5; have tf := free4 T5; have rf := free4 R5))
            have R6 : TokAt (u.setCell ⟨w.heap.size + 1, 0, none⟩ (.int .i64 wi)) w.heap.size noTok := (Below.heap_setCell _ _ _ _ (by show w.heap.size ≠ w.heap.size + 1; omega)).trans R5
            (try simp only [Exit.inBlock, Exit.then])
            refine bodyPost_ret (results_row_tmp rfl _ _ w.heap.size 30 (tokA ⟨wi, ⟨#[]⟩, 0, a⟩) (0, 0) _ rfl (R6.set4 _ _ _ _) Tryd.underlying30 rfl infoTok) rfl ⟨by rw [he.out]; rfl, set4B (gset (gtrans (two0B w _ _) g) (by show w.heap.size ≤ w.heap.size + 1; omega) _) _ _ _ _⟩
          · have hw2 : wordI x = 1 := by simpa using hw1
            have he : Hid (z = (⟨1, x, 0, a⟩, 0)) := by show _ = _; rw [HZ2.out, if_neg (by simp), if_neg h16, if_pos hw2, hw2]
            have h16' : (x.size : Int) ≤ 16 := by omega
            clear HZ2 cS cN
            rw [hw2] at cW
            clear hw1 hw2
            go_enter Tryd.func27, Tryd.ntmps27
            go_wp2_with (first
              | (go_at_call 39; with_reducible refine (cD _).mono ?_; rintro e u ⟨rfl, rfl⟩)
              | (go_at_call 43; with_reducible refine (cW _ (two0B w _ _)).mono ?_; rintro e u ⟨rfl, g⟩; have R5 := (g.block w.heap.size (lt0 w _ _)).trans (two0 w _ _ _ _); have T5 := (g.block (w.heap.size + 1) (lt1 w _ _)).trans (two1 w _ _ _ _); obtain ⟨t0, t1, t2, t3⟩ := cells4 T5; obtain ⟨r0, r1, r2, r3⟩ := cells4 R5; have tf := free4 T5; have rf := free4 R5))
            have R6 : TokAt ((u.setCell ⟨w.heap.size + 1, 0, none⟩ (.int .i64 1)).setCell ⟨w.heap.size + 1, 1, none⟩ (.string x)) w.heap.size noTok := (Below.heap_setCell _ _ _ _ (by show w.heap.size ≠ w.heap.size + 1; omega)).trans ((Below.heap_setCell _ _ _ _ (by show w.heap.size ≠ w.heap.size + 1; omega)).trans R5)
            (try simp only [Exit.inBlock, Exit.then])
            refine bodyPost_ret (results_row_tmp rfl _ _ w.heap.size 30 (tokA ⟨1, x, 0, a⟩) (0, 0) _ rfl (R6.set4 _ _ _ _) Tryd.underlying30 rfl infoTok) rfl ⟨by rw [he.out]; rfl, set4B (gset (gset (gtrans (two0B w _ _) g) (by show w.heap.size ≤ w.heap.size + 1; omega) _) (by show w.heap.size ≤ w.heap.size + 1; omega) _) _ _ _ _⟩
      · rw [hd] at cD HZ2
        rw [if_pos rfl] at HZ2
        unfold digT at HZ2
        rw [numP_R x hx] at HZ2
        generalize numP x = np at *
        obtain ⟨nv, nk⟩ := np
        dsimp only at cN HZ2
        generalize bt x 0 = nb at *
        cases nk
        · have he : Hid (z = (⟨0, ⟨#[]⟩, 0, a⟩, 32)) := by show _ = _; rw [HZ2.out, if_neg (by simp)]
          clear HZ2 cS cW
          go_enter Tryd.func27, Tryd.ntmps27
          go_wp2_with (first
            | (go_at_call 39; with_reducible refine (cD _).mono ?_; rintro e u ⟨rfl, rfl⟩)
            | (go_at_call 42; with_reducible refine (cN _).mono ?_; rintro e u ⟨rfl, rfl⟩))
          (try simp only [Exit.inBlock, Exit.then])
          refine bodyPost_ret (results_row_tmp rfl _ _ w.heap.size 30 (tokA ⟨0, ⟨#[]⟩, 0, a⟩) (0, 0) _ rfl (two0 w _ _ _ _) Tryd.underlying30 rfl infoTok) rfl ⟨by rw [he.out]; rfl, two0B w _ _⟩
        · have he : Hid (z = (⟨2, ⟨#[]⟩, nv, a⟩, 0)) := by show _ = _; rw [HZ2.out, if_pos rfl]
          clear HZ2 cS cW
          go_enter Tryd.func27, Tryd.ntmps27
          go_wp2_with (first
            | (go_at_call 39; with_reducible refine (cD _).mono ?_; rintro e u ⟨rfl, rfl⟩)
            | (go_at_call 42; with_reducible refine (cN _).mono ?_; rintro e u ⟨rfl, rfl⟩))
          (try simp only [Exit.inBlock, Exit.then])
          refine bodyPost_ret (results_row_tmp rfl _ _ w.heap.size 30 (tokA ⟨2, ⟨#[]⟩, nv, a⟩) (0, 0) _ rfl (two0 w _ _ _ _) Tryd.underlying30 rfl infoTok) rfl ⟨by rw [he.out]; rfl, two0B w _ _⟩
    · have he : Hid (z = (⟨sgK x, ⟨#[]⟩, 0, a⟩, 0)) := by
        show _ = _
        rw [HZ.out]
        unfold tokT
        rw [if_neg (show ¬ role = 3 by simpa using h3), if_pos (show role = 2 by simpa using h2)]
      clear HZ cN cD cW
      generalize sgK x = sk at *
      go_enter Tryd.func27, Tryd.ntmps27
      go_wp2_with (go_at_call 40; with_reducible refine (cS _ (two0B w _ _)).mono ?_; rintro e u ⟨rfl, rfl⟩)
      (try simp only [Exit.inBlock, Exit.then])
      refine bodyPost_ret (results_row_tmp rfl _ _ w.heap.size 30 (tokA ⟨sk, ⟨#[]⟩, 0, a⟩) (0, 0) _ rfl (two0 w _ _ _ _) Tryd.underlying30 rfl infoTok) rfl ⟨by rw [he.out]; rfl, two0B w _ _⟩
  · have he : Hid (z = (⟨0, ⟨#[]⟩, 0, a⟩, 31)) := by
      show _ = _
      rw [HZ.out]
      unfold tokT
      rw [if_pos (show role = 3 by simpa using h3)]
    clear HZ cS cN cD cW
    go_enter Tryd.func27, Tryd.ntmps27
    go_wp2
    (try simp only [Exit.inBlock, Exit.then])
    refine bodyPost_ret (results_row_tmp rfl _ _ w.heap.size 30 (tokA ⟨0, ⟨#[]⟩, 0, a⟩) (0, 0) _ rfl (two0 w _ _ _ _) Tryd.underlying30 rfl infoTok) rfl ⟨by rw [he.out]; rfl, two0B w _ _⟩

end Go.Proofs.YtlcmfefcammklaaDoor
