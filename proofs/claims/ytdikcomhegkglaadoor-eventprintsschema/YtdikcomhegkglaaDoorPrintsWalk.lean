/- The walk of the law EventPrintsSchema. -/
import Derived.Test.YtdikcomhegkglaaDoorText2
import Derived.Test.YtdikcomhegkglaaDoorShape
import Derived.Laws.IdiomStrings
import Derived.BigRegion
namespace Go.Proofs.YtdikcomhegkglaaDoor.eventPrintsSchema
open Go.RowKit Go.BigFrame Go.Shelf
set_option linter.unusedVariables false
set_option linter.unusedSimpArgs false

theorem eqB_refl (l : List ByteArray) : eqB l l = true := decide_eq_true ⟨rfl, fun _ _ => by simp⟩
theorem eqS_refl (L : List Ty) : eqS L L = true := decide_eq_true ⟨rfl, fun j _ => ⟨by simp, eqB_refl _⟩⟩
theorem conv1 (X : World) (b : Nat) (c : Int) (h0 : 0 ≤ c) (h1 : c < 256) (hc : X.cell? ⟨b, 0, none⟩ = some (.int .u8 c)) : (convert 30 9 (.slice (some ⟨b, 0, none⟩) 1 1)).run Tryd.prog X = .ok (.string ⟨#[UInt8.ofNat c.toNat]⟩) X := by
  refine run_convert_bytes_back X 30 9 5 ⟨b, 0, none⟩ 1 [UInt8.ofNat c.toNat] (by kernel_rfl) (by kernel_rfl) (by kernel_rfl) fun j hj => ?_
  have hj0 : j = 0 := by simp at hj; omega
  subst hj0
  rw [Go.WideShapes.add_plain, Nat.zero_add, hc]
  have : c.toNat % 256 = c.toNat := Nat.mod_eq_of_lt (by omega)
  simp [this]
  omega

set_option maxRecDepth 100000 in
set_option maxHeartbeats 8000000 in
theorem walk (ao : Option Addr) (n cap : Nat) (L : List Ty) (hnc : n ≤ cap) (w : World) (K : KwAt w) (h : IsTypes w ao n L) (hr : n * 40 ≤ 140737488351232) (hrs : ∀ j, (L.getD j noTy).2.length * 16 ≤ 140737488351232) :
    Calls Tryd.prog 3 #[.agg #[.slice ao n cap]] w fun e w' => e = .returned (.bool true) ∧ Below w.heap.size w w' := by
  have hn := h.2.1
  go_enter Tryd.func3, Tryd.ntmps3
  go_upto_region 1 with fail
  have B0 := galloc (Below.refl w.heap.size w) (.cells #[.slice ao n cap] 24)
  have O0 := One.new w (.slice ao n cap) 24
  generalize hW0 : w.alloc (.cells #[.slice ao n cap] 24) = W0 at B0 O0 ⊢
  clear hW0
  have o0 := O0.at0
  replace h := h.keep B0
  replace K := K.keep B0
  have c := twin_any ao n cap L W0 h hr hrs
  go_upto_region 2 with (go_at_call 4; with_reducible refine c.mono ?_; rintro e u ⟨v, rfl, T, g⟩; obtain ⟨av, cv, rfl, hTy⟩ := T.types)
  clear c T
  have O1 := One.new u (.slice av n cv) 24
  replace O0 := (O0.keep g).alloc (.cells #[.slice av n cv] 24)
  have B1 := galloc (gtrans B0 g) (.cells #[.slice av n cv] 24)
  have q1 := galloc (Below.refl u.heap.size u) (.cells #[.slice av n cv] 24)
  replace h := (h.keep g).keep q1
  replace K := (K.keep g).keep q1
  replace hTy := hTy.keep q1
  generalize hW1 : u.alloc (.cells #[.slice av n cv] 24) = W1 at O0 O1 B1 h K hTy ⊢
  generalize hbu : u.heap.size = bu at O1 ⊢
  clear hW1 g o0 B0 q1 hbu
  have o0 := O0.at0
  have o1 := O1.at0
  have s0 := O0.lt
  have s1 := O1.lt
  have G := Below.refl W1.heap.size W1
  have e1 := eqS_refl L
  have c1 := fun u (g : Below W1.heap.size W1 u) => printSchema_any ao n cap L u (h.keep g) hnc (K.keep g)
  have c2 := fun u (g : Below W1.heap.size W1 u) => refPrintSchema_any av n cv L u (hTy.keep g) (K.keep g)
  have c5 := fun u (g : Below W1.heap.size W1 u) => sameSchema_any ao av n n cap cv L L u (h.keep g) (hTy.keep g)
  have c6 := fun u (g : Below W1.heap.size W1 u) => twin_any ao n cap L u (h.keep g) hr hrs
  simp only [e1] at c5
  generalize prS L = pz at c1 c2
  obtain ⟨ps, pc⟩ := pz
  clear e1
  go_upto_region 6 with (first
    | (go_at_call 5; with_reducible refine (c1 _ G).mono ?_; rintro e u ⟨rfl, g⟩; replace G := gtrans G g; obtain ⟨hc, hf⟩ := bcell G; clear g hf)
    | (go_at_call 6; with_reducible refine (c2 _ G).mono ?_; rintro e u ⟨rfl, g⟩; replace G := gtrans G g; obtain ⟨hc, hf⟩ := bcell G; clear g hf)
    | (go_at_call 7; with_reducible refine (c5 _ G).mono ?_; rintro e u ⟨rfl, g⟩; replace G := gtrans G g; obtain ⟨hc, hf⟩ := bcell G; clear g hf))
  clear c1 c2 c5
  have c7 := c6 u G
  clear c6
  go_upto_region 7 with (go_at_call 4; with_reducible refine c7.mono ?_; rintro e u2 ⟨v, rfl, T, g⟩; obtain ⟨am, cm, rfl, hTm⟩ := T.types)
  clear c7 hTy O1 o1 s1
  have hms := T.shape
  have hmc : n ≤ cm := by obtain ⟨_, _, hown, _⟩ := T; exact own_cap hown
  have Om := One.new u2 (.slice am n cm) 24
  have q1 := galloc (Below.refl u2.heap.size u2) (.cells #[.slice am n cm] 24)
  replace hTm := hTm.keep q1
  replace hms := hms.keep q1
  have B3 := galloc (gtrans (gtrans B1 G) g) (.cells #[.slice am n cm] 24)
  have K3 := ((K.keep G).keep g).keep q1
  have hbase : w.heap.size ≤ u.heap.size := (gtrans B1 G).size
  have hbm : w.heap.size ≤ u2.heap.size := (gtrans (gtrans B1 G) g).size
  have hbs : W1.heap.size ≤ u.heap.size := G.size
  have GK := galloc (gtrans G g) (.cells #[.slice am n cm] 24)
  generalize hW3 : u2.alloc (.cells #[.slice am n cm] 24) = W3 at Om hTm hms B3 K3 GK ⊢
  generalize hbu2 : u2.heap.size = bm at Om hbm ⊢
  generalize hbase2 : u.heap.size = base at hms hbase hbs ⊢
  clear hW3 g q1 hbu2 hbase2 T G hc h O0 o0 s0 B1
  obtain ⟨ms, hmsd⟩ : ∃ ms : Nat → Nat, ms = fun j => (L.getD j noTy).2.length := ⟨_, rfl⟩
  rw [← hmsd] at hms
  have hrm : ∀ j, ms j * 16 ≤ 140737488351232 := by rw [hmsd]; exact hrs
  clear hmsd hrs
  have om := Om.at0
  have c1 := printSchema_any am n cm L W3 hTm hmc K3
  go_upto_region 9 with (go_at_call 5; with_reducible refine c1.mono ?_; rintro e u ⟨rfl, G⟩)
  replace Om := Om.keep G
  replace hms := hms.keep G
  replace B3 := gtrans B3 G
  replace GK := gtrans GK G
  clear c1 hTm om G K3
  go_loopw [9] (fun i wr => ∃ k : Nat, k ≤ n ∧ i = .int .i64 k ∧ One wr bm (.slice am n cm) 24 ∧ Shape base wr (.slice am n cm) n ms ∧ Below w.heap.size w wr ∧ Below W1.heap.size W1 wr) (fun i _ => n - (intOf i).toNat)
  case atStart => exact ⟨0, Nat.zero_le _, rfl, Om, hms, B3, GK⟩
  case round =>
    obtain ⟨k, hk, rfl, Q1, Q2, Q3, Q4⟩ := hrel
    obtain ⟨wo, rfl⟩ : ∃ wo, wo = wr := ⟨_, rfl⟩
    have qm := Q1.at0
    by_cases hlt : k < n
    · obtain ⟨_, _, e1, _, hg⟩ := Q2.form
      simp only [Value.slice.injEq, true_and] at e1
      obtain ⟨rfl, rfl⟩ := e1
      rcases hg with hg | ⟨g, rfl⟩
      · omega
      obtain ⟨zk, f2, f3⟩ := Q2.name k hlt
      obtain ⟨hbg, cur0, hh0⟩ := Q2.base
      have hgl : g < wo.heap.size := lt_of_block hh0
      have hgm : bm ≠ g := fun e => by
        have h5 : wo.heap[bm]? = _ := Q1
        rw [e, hh0] at h5
        simp at h5
      go_upto_region 11 with fail
      have cv := conv1 (wo.alloc (.cells #[.int .u8 (97 + (k : Int) % 26)] 5)) wo.heap.size (97 + (k : Int) % 26) (by omega) (by omega) (by rw [World.cell?_alloc_new]; rfl)
      obtain ⟨bz, hbz⟩ : ∃ bz, bz = (⟨#[UInt8.ofNat (97 + (k : Int) % 26).toNat]⟩ : ByteArray) := ⟨_, rfl⟩
      rw [← hbz] at cv
      have hbs2 : bz.size ≤ 10 := by rw [hbz]; show 1 ≤ 10; omega
      clear hbz
      have A1 := galloc (Below.refl wo.heap.size wo) (.cells #[.int .u8 (97 + (k : Int) % 26)] 5)
      have f2' := (A1.cell (p := ⟨g, k * 2, none⟩) hgl).trans f2
      have f3' := (A1.frozen (p := ⟨g, k * 2, none⟩) hgl).trans f3
      go_upto_region 12 with fail
      have R1 : One ((wo.setCell ⟨g, k * 2, none⟩ (.string (⟨#[90]⟩ ++ bz))).alloc (.cells #[.int .u8 (97 + (k : Int) % 26)] 5)) bm (.slice (some ⟨g, 0, none⟩) n cm) 24 := One.alloc ((Below.heap_setCell _ ⟨g, k * 2, none⟩ _ bm hgm).trans Q1) _
      have R2 : Shape base ((wo.setCell ⟨g, k * 2, none⟩ (.string (⟨#[90]⟩ ++ bz))).alloc (.cells #[.int .u8 (97 + (k : Int) % 26)] 5)) (.slice (some ⟨g, 0, none⟩) n cm) n ms := (Q2.setName k hlt _).keep (galloc (Below.refl _ _) _)
      have R3 : Below w.heap.size w ((wo.setCell ⟨g, k * 2, none⟩ (.string (⟨#[90]⟩ ++ bz))).alloc (.cells #[.int .u8 (97 + (k : Int) % 26)] 5)) := galloc (gset Q3 (by show w.heap.size ≤ g; omega) _) _
      have R4 : Below W1.heap.size W1 ((wo.setCell ⟨g, k * 2, none⟩ (.string (⟨#[90]⟩ ++ bz))).alloc (.cells #[.int .u8 (97 + (k : Int) % 26)] 5)) := galloc (gset Q4 (by show W1.heap.size ≤ g; omega) _) _
      generalize ((wo.setCell ⟨g, k * 2, none⟩ (.string (⟨#[90]⟩ ++ bz))).alloc (.cells #[.int .u8 (97 + (k : Int) % 26)] 5)) = W4 at R1 R2 R3 R4 ⊢
      clear Q1 Q2 Q3 Q4 qm f2 f3 f2' f3' hh0 cv A1
      obtain ⟨m, hm⟩ : ∃ m, ms k = m := ⟨_, rfl⟩
      have HM : Hid (ms k = m) := hm
      clear hm
      go_upto_region 13 with fail
      go_loopw [10] (fun i wq => ∃ k2 : Nat, k2 ≤ m ∧ i = .int .i64 k2 ∧ One wq bm (.slice (some ⟨g, 0, none⟩) n cm) 24 ∧ Shape base wq (.slice (some ⟨g, 0, none⟩) n cm) n ms ∧ Below w.heap.size w wq ∧ Below W1.heap.size W1 wq) (fun i _ => m - (intOf i).toNat)
      case atStart => exact ⟨0, Nat.zero_le _, rfl, R1, R2, R3, R4⟩
      case round =>
        obtain ⟨k2, hk2, rfl, S1, S2, S3, S4⟩ := hrel
        have qm := S1.at0
        obtain ⟨aj, cj, f1, hmb, hrow⟩ := S2.attrs k hlt
        rw [HM.out] at f1 hmb hrow
        by_cases hlt2 : k2 < m
        · rcases hrow with hrow | ⟨g2, ss, rfl, hbg2, hown, hcells⟩
          · omega
          obtain ⟨zk2, f5, f6⟩ := hcells k2 hlt2
          obtain ⟨cur2, h6, _⟩ := own_block hown
          have hg2l : g2 < wr.heap.size := lt_of_block h6
          have hg2m : bm ≠ g2 := fun e => by
            have h5 : wr.heap[bm]? = _ := S1
            rw [e, h6] at h5
            simp at h5
          obtain ⟨_, cur3, h7⟩ := S2.base
          have hgl3 : g < wr.heap.size := lt_of_block h7
          have bml : bm < wr.heap.size := S1.lt
          have cv := conv1 (wr.alloc (.cells #[.int .u8 (97 + (k2 : Int) % 26)] 5)).drew wr.heap.size (97 + (k2 : Int) % 26) (by omega) (by omega) (by show (wr.alloc _).cell? _ = _; rw [World.cell?_alloc_new]; rfl)
          obtain ⟨bz, hbz⟩ : ∃ bz, bz = (⟨#[UInt8.ofNat (97 + (k2 : Int) % 26).toNat]⟩ : ByteArray) := ⟨_, rfl⟩
          rw [← hbz] at cv
          have hbs2 : bz.size ≤ 10 := by rw [hbz]; show 1 ≤ 10; omega
          clear hbz hcells
          have A1 := galloc (Below.refl wr.heap.size wr) (.cells #[.int .u8 (97 + (k2 : Int) % 26)] 5)
          have f5' := (A1.cell (p := ⟨g2, k2, none⟩) hg2l).trans f5
          have f6' := (A1.frozen (p := ⟨g2, k2, none⟩) hg2l).trans f6
          have f1' := (A1.cell (p := ⟨g, k * 2 + 1, none⟩) hgl3).trans f1
          have qm' := (A1.cell (p := ⟨bm, 0, none⟩) bml).trans qm
          go_upto_region 15 with fail
          go_region
          all_goals
            have U1 : One ((wr.setCell ⟨g2, k2, none⟩ (.string (⟨#[122]⟩ ++ bz))).alloc (.cells #[.int .u8 (97 + (k2 : Int) % 26)] 5)).drew bm (.slice (some ⟨g, 0, none⟩) n cm) 24 := One.alloc ((Below.heap_setCell wr ⟨g2, k2, none⟩ _ bm hg2m).trans S1) _
            have U2 : Shape base ((wr.setCell ⟨g2, k2, none⟩ (.string (⟨#[122]⟩ ++ bz))).alloc (.cells #[.int .u8 (97 + (k2 : Int) % 26)] 5)).drew (.slice (some ⟨g, 0, none⟩) n cm) n ms := (S2.setAttr hown k2 _).keep (galloc (Below.refl _ _) _).drew
            have U3 : Below w.heap.size w ((wr.setCell ⟨g2, k2, none⟩ (.string (⟨#[122]⟩ ++ bz))).alloc (.cells #[.int .u8 (97 + (k2 : Int) % 26)] 5)).drew := (galloc (gset S3 (by show w.heap.size ≤ g2; omega) _) _).drew
            have U4 : Below W1.heap.size W1 ((wr.setCell ⟨g2, k2, none⟩ (.string (⟨#[122]⟩ ++ bz))).alloc (.cells #[.int .u8 (97 + (k2 : Int) % 26)] 5)).drew := (galloc (gset S4 (by show W1.heap.size ≤ g2; omega) _) _).drew
            generalize ((wr.setCell ⟨g2, k2, none⟩ (.string (⟨#[122]⟩ ++ bz))).alloc (.cells #[.int .u8 (97 + (k2 : Int) % 26)] 5)).drew = W6 at U1 U2 U3 U4 ⊢
            clear S1 S2 S3 S4 qm f1 f5 f6 hown f5' f6' f1' qm' cv A1
            go_wp2
            go_roundw
            case rel => exact ⟨k2 + 1, by omega, by go_num, U1, U2, U3, U4⟩
            case measure => simp [intOf]; omega
        · obtain rfl : k2 = m := by omega
          clear hrow
          go_wp2
          go_roundw
          case rel => exact ⟨k + 1, by omega, by go_num, S1, S2, S3, S4⟩
          case measure => simp [intOf]; omega
    · obtain rfl : k = n := by omega
      obtain ⟨L2, T2, hl2⟩ := Q2.own
      have hmc2 : k ≤ cm := by obtain ⟨_, _, hown, _⟩ := T2; exact own_cap hown
      obtain ⟨_, _, e1, hT2⟩ := T2.types
      simp only [Value.slice.injEq, true_and] at e1
      obtain ⟨rfl, rfl⟩ := e1
      have hrs2 : ∀ j, (L2.getD j noTy).2.length * 16 ≤ 140737488351232 := fun j => by
        by_cases hj : j < k
        · rw [hl2 j hj]; exact hrm j
        · have : L2.getD j noTy = noTy := by
            have := hT2.1
            simp [List.getD, List.getElem?_eq_none (show L2.length ≤ j by omega)]
          rw [this]; decide
      have K4 := K.keep Q4
      have ca := printSchema_any am k cm L2 wo hT2 hmc2 K4
      have cb := fun u (g : Below wo.heap.size wo u) => twin_any am k cm L2 u (hT2.keep g) hr hrs2
      have cc := fun (u : World) (g : Below wo.heap.size wo u) (av : Option Addr) (cv : Nat) (hv : IsTypes u av k L2) => refPrintSchema_any av k cv L2 u hv (K4.keep g)
      generalize prS L2 = pz at ca cc
      obtain ⟨ps2, pc2⟩ := pz
      go_wp2_with (first
        | (go_at_call 5; with_reducible refine ca.mono ?_; rintro e u ⟨rfl, g⟩; have qm2 := (Q1.keep g).at0)
        | (go_at_call 4; with_reducible refine (cb _ g).mono ?_; rintro e u2 ⟨v, rfl, T, g2⟩; obtain ⟨av2, cv2, rfl, hTv⟩ := T.types; have g3 := gtrans g g2)
        | (go_at_call 6; with_reducible refine (cc _ g3 _ _ hTv).mono ?_; rintro e u4 ⟨rfl, g4⟩))
      go_ret
      exact ⟨by first | rfl | simp, gtrans Q3 (gtrans g3 g4)⟩

end Go.Proofs.YtdikcomhegkglaaDoor.eventPrintsSchema
