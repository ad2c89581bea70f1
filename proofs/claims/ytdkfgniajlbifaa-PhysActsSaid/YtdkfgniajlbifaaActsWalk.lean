/- PhysActs answers true, whatever the frames, the acts and the place, and changes nothing that was there. -/
import Derived.Test.YtdkfgniajlbifaaTwo
import Derived.Test.YtdkfgniajlbifaaOpenActs
import Derived.Deep.RegionWith
import Derived.Deep.RegionHeld3
namespace Go.Proofs.Ytdkfgniajlbifaa
open Go.ChangeShapes Go.WideShapes Go.ChangeAt Go.RowKit Go.Deep
open Extern.Stop (cell)
set_option linter.unusedVariables false

/-- The boxed place. -/
def At (wr : World) (x : Nat) (a b : Int) : Prop := wr.heap[x]? = some (.cells #[.int .i64 a, .int .i64 b] 23 (0, 0))
theorem At.cells {wr : World} {x : Nat} {a b : Int} (h : At wr x a b) : wr.cell? ⟨x, 0, none⟩ = some (.int .i64 a) ∧ wr.cell? ⟨x, 1, none⟩ = some (.int .i64 b) := by
  unfold At at h
  exact ⟨by rw [cell_of_row _ _ _ _ _ _ h]; rfl, by rw [cell_of_row _ _ _ _ _ _ h]; rfl⟩
theorem At.kept {wr w' : World} {x : Nat} {a b : Int} {S : List Nat} (h : At wr x a b) (K : Kept S wr w') (hx : x ∉ S) : At w' x a b :=
  (K x (Array.getElem?_eq_some_iff.1 h).1 hx).trans h

/-- Bytes that were there when the law began lie in no row. -/
theorem Src.sep {w : World} {s : Option Addr} {l : Nat} {bs : List UInt8} {R : List Nat} (h : Src w s l bs) (hR : ∀ p ∈ R, w.heap.size ≤ p) : l ≠ 0 → ∀ a, s = some a → a.block ∉ R := by
  intro hl a ha hm
  rcases h.2 with h0 | ⟨g, o, rfl, hr⟩
  · exact hl h0
  · cases ha
    have := hR _ hm
    obtain ⟨x, hx⟩ : ∃ x, (bs.map Extern.Stop.cell)[0]? = some x := by
      cases bs with
      | nil => simp [← h.1] at hl
      | cons x r => exact ⟨_, rfl⟩
    have h2 := World.block_lt_of_cell? w _ (hr 0 x hx)
    simp only at h2 this
    omega

theorem Boxed.past {wr w' : World} {x : Nat} {A : ActV} {S : List Nat} (h : Boxed wr x A) (K : Kept S wr w') (hx : x ∉ S) : Boxed w' x A :=
  (K x (Array.getElem?_eq_some_iff.1 h).1 hx).trans h

set_option maxHeartbeats 4000000 in
set_option maxRecDepth 100000 in
theorem acts_walk (w : World) (N : Int) (wN : (Lit.int .i64 N).wf = true) (s : Option Addr) (l c : Nat) (As : List ActV) (hAs : ActsAre w s l As) (a0 a1 : Int) :
    Calls Try.prog 3 #[.int .i64 N, .slice s l c, .agg #[.int .i64 a0, .int .i64 a1]] w fun e w' => e = .returned (.bool true) ∧ Below w.heap.size w w' := by
  have HAS := Lib.hid hAs
  clear hAs wN
  have hbA : ∀ o, Below w.heap.size w (w.alloc o) := fun o => (Below.refl _ _).alloc (Nat.le_refl _) o
  have HBA := Lib.hid hbA
  clear hbA
  by_cases hlight : Light As
  · have HLI := Lib.hid hlight
    have hl60 : l ≤ 60 := by have := hlight.1; rw [HAS.out.len] at this; exact this
    clear hlight
    by_cases hN : 1 ≤ N ∧ N ≤ 256
    · obtain ⟨n, rfl⟩ := Int.eq_ofNat_of_zero_le (show 0 ≤ N by omega)
      have hn1 : 1 ≤ n := by omega
      have hn2 : n ≤ 256 := by omega
      clear hN
      go_enter Try.func3, Try.ntmps3
      go_wp2_with fail
      refine (light_any _ s l c As (HAS.out.below (HBA.out _)) true (by simpa using HLI.out)).mono ?_
      rintro e w1 ⟨rfl, hb1⟩
      have HX1 : Hid (At w1 w.heap.size a0 a1) := (hb1.block _ (by simp)).trans (heap_alloc_new w _)
      have HB1 : Hid (Below w.heap.size w w1) := (HBA.out _).trans (hb1.mono (by simp))
      have hw1 : w.heap.size < w1.heap.size := (Array.getElem?_eq_some_iff.1 HX1.out).1
      clear hb1
      go_wp2_with fail
      refine (newE w HB1.out _ n rfl hn1 hn2).mono ?_
      rintro e w2 ⟨rfl, h2, hG2⟩
      have HX2 : Hid (At w2 w.heap.size a0 a1) := blk_kept HX1.out hG2 (by simp)
      have hdm : w1.heap.size ≠ w1.heap.size + 1 := by omega
      have hd2 := h2.dlt
      have hm2 := h2.mlt
      generalize w1.heap.size + 1 = m at *
      generalize w1.heap.size = d at *
      have HS2 := Lib.hid h2
      clear h2 hG2
      go_wp2_with fail
      refine (rnew_ok n _ hn1 hn2).mono ?_
      rintro e w3 ⟨rfl, R, v, hN3⟩
      obtain ⟨f, hrs⟩ := hN3.rs HS2.out.below hn1 hn2
      have hg3 := grown_of_below hN3.below none
      have HX3 : Hid (At w3 w.heap.size a0 a1) := blk_kept HX2.out hg3 (by simp)
      have HT3 : Hid (Two w w3 m d w2.heap.size f n R (List.replicate (n * 4096) 0) (List.replicate (n * 4096) 0)) := by
        have hst := HS2.out.grow hg3
        have hRge := hN3.Rge
        refine ⟨hst, hrs, fun e => ?_, fun e => ?_, by omega, fun e => ?_⟩
        · have := hRge d e; omega
        · have := hRge m e; omega
        · obtain ⟨cur, hc, _⟩ := hrs.mem.table
          have hb := hst.mem.body
          rw [e, hc] at hb
          simp only [Option.some.injEq, Obj.cells.injEq] at hb
          exact absurd hb.2.1 (by decide)
      have hXr : w.heap.size ≠ w2.heap.size := by omega
      have HXR : Hid (w.heap.size ∉ d :: R) := by
        intro e
        rw [List.mem_cons] at e
        rcases e with e | e
        · omega
        · have := hN3.Rge _ e; omega
      generalize w2.heap.size = r at *
      clear hN3 hrs hg3
      go_wp2_with fail
      go_loopw [38] (fun k wr => ∃ (q : Nat) (L : List UInt8), q ≤ l ∧ k = .int .i64 q ∧ Two w wr m d r f n R L L ∧ At wr w.heap.size a0 a1) (fun k _ => l - (intOf k).toNat)
      case atStart => exact ⟨0, _, by omega, rfl, HT3.out, HX3.out⟩
      case round =>
        obtain ⟨q, L, hq, rfl, hT, hX⟩ := hrel
        have HT := Lib.hid hT
        have HX := Lib.hid hX
        clear hT hX
        by_cases hlt : q < l
        · obtain ⟨A, hA⟩ : ∃ A, As[q]? = some A := ⟨_, List.getElem?_eq_getElem (by rw [HAS.out.len]; exact hlt)⟩
          rcases HAS.out.cells with h0 | ⟨g, o, rfl, hc⟩
          · omega
          have hat := (hc q A hA).below HT.out.st.below
          obtain ⟨c0, c1, c2, c3, c4, hsrc, hv64⟩ := hat
          have HSRC := Lib.hid hsrc
          have HV64 := Lib.hid hv64
          have HL5 := Lib.hid (HLI.out.2.1 A (List.mem_of_getElem? hA))
          have HSEP := Lib.hid ((hc q A hA).src.sep HT.out.rs.Rge)
          have hyd := HT.out.st.dlt
          have HYR : Hid (wr.heap.size ∉ d :: R) := by
            intro e
            rw [List.mem_cons] at e
            rcases e with e | e
            · omega
            · have := HT.out.rs.mem.Rlt _ e; omega
          have hga := World.grownBy_alloc wr (.cells #[.int .i64 A.k, .int .i64 A.a, .int .i64 A.b, .int .u64 A.v, .slice A.s A.l A.c] 33) none
          have hgd := grown_trans hga (grown_drewN (wr.alloc (.cells #[.int .i64 A.k, .int .i64 A.a, .int .i64 A.b, .int .u64 A.v, .slice A.s A.l A.c] 33)) 1 none)
          have HTA : Hid (Two w (wr.alloc (.cells #[.int .i64 A.k, .int .i64 A.a, .int .i64 A.b, .int .u64 A.v, .slice A.s A.l A.c] 33)).drew m d r f n R L L) := HT.out.grow hgd
          have HXA : Hid (At (wr.alloc (.cells #[.int .i64 A.k, .int .i64 A.a, .int .i64 A.b, .int .u64 A.v, .slice A.s A.l A.c] 33)).drew w.heap.size a0 a1) := blk_kept HX.out hgd (by simp)
          have HYA : Hid (Boxed (wr.alloc (.cells #[.int .i64 A.k, .int .i64 A.a, .int .i64 A.b, .int .u64 A.v, .slice A.s A.l A.c] 33)).drew wr.heap.size A) := heap_alloc_new wr _
          have HSA : Hid (Src (wr.alloc (.cells #[.int .i64 A.k, .int .i64 A.a, .int .i64 A.b, .int .u64 A.v, .slice A.s A.l A.c] 33)).drew A.s A.l A.bs) := hsrc.kept hgd (by simp)
          have HSW := Lib.hid (hc q A hA).src
          clear hc hA hsrc hv64 hga hgd
          go_wp2_with fail
          go_region_with (first | (go_at_call 14; first | (refine (HT2.out.act A _ _ _ _ _ _ _ A.bs rfl rfl rfl rfl rfl (HSW.out.below HT2.out.st.below) HV64.out).mono ?_; rintro e w6 ⟨rfl, ht, hk, -⟩; have HT3 := Lib.hid ht; have HX3 := Lib.hid (HX2.out.kept hk HXR.out); have HY3 := Lib.hid (HY2.out.past hk HYR.out); clear ht hk z0 z1 z2 z3 z4) | (refine (HTA.out.act A _ _ _ _ _ _ _ A.bs rfl rfl rfl rfl rfl HSA.out HV64.out).mono ?_; rintro e w5 ⟨rfl, ht, hk, -⟩; have HT2 := Lib.hid ht; have HX2 := Lib.hid (HXA.out.kept hk HXR.out); have HY2 := Lib.hid (HYA.out.past hk HYR.out); obtain ⟨z0, z1, z2, z3, z4⟩ := HY2.out.cells; clear ht hk)) | (go_at_call 15; first | (refine (HT2.out.like A _ _ _ _ _ _ _ A.bs rfl rfl rfl rfl rfl (HSW.out.below HT2.out.st.below) (by have := HL5.out; omega) HSEP.out HV64.out).mono ?_; rintro e w6 ⟨rfl, ht, hk⟩; have HT3 := Lib.hid ht; have HX3 := Lib.hid (HX2.out.kept hk HXR.out); have HY3 := Lib.hid (HY2.out.past hk HYR.out); clear ht hk z0 z1 z2 z3 z4) | (refine (HTA.out.like A _ _ _ _ _ _ _ A.bs rfl rfl rfl rfl rfl HSA.out (by have := HL5.out; omega) HSEP.out HV64.out).mono ?_; rintro e w5 ⟨rfl, ht, hk⟩; have HT2 := Lib.hid ht; have HX2 := Lib.hid (HXA.out.kept hk HXR.out); have HY2 := Lib.hid (HYA.out.past hk HYR.out); obtain ⟨z0, z1, z2, z3, z4⟩ := HY2.out.cells; clear ht hk)))
          all_goals
            obtain ⟨x0, x1⟩ := HX3.out.cells
            obtain ⟨z0, z1, z2, z3, z4⟩ := HY3.out.cells
            clear z0 z3 z4 HT2 HX2 HY2
            generalize (actS n A L).2 = L2 at *
            generalize (actS n A L).1 = b1 at *
            have HSM : Hid (∀ k, Calls Try.prog 20 #[.pointer (some ⟨m, 0, none⟩), .int .i64 A.a, .int .i64 A.b] (w6.drewN k) fun e w' => e = .returned (.bool (sameV n L2 A.a A.b)) ∧ ∃ j, w' = (w6.drewN k).drewN j) := fun k => same_any (HT3.out.grow (grown_drewN w6 k none)).st _ _
            have HSR : Hid (∀ k, Calls Try.prog 21 #[.pointer (some ⟨r, 0, none⟩), .int .i64 A.a, .int .i64 A.b] (w6.drewN k) fun e w' => e = .returned (.bool (sameV n L2 A.a A.b)) ∧ ∃ j, w' = (w6.drewN k).drewN j) := fun k => rsame_any (HT3.out.grow (grown_drewN w6 k none)).rs _ _
            generalize sameV n L2 A.a A.b = sm at *
            go_wp2_with fail
            refine (byte_any HT3.out.st a0 a1).mono ?_
            rintro e w7 ⟨rfl, rfl⟩
            go_wp2_with fail
            refine (rbyte_any HT3.out.rs a0 a1).mono ?_
            rintro e w7 ⟨rfl, rfl⟩
            generalize ((byteV n L2 a0 a1).1 : Int) = v1
            generalize (byteV n L2 a0 a1).2 = v2
            go_wp2_with fail
            refine (word_any HT3.out.st a0 a1).mono ?_
            rintro e w7 ⟨rfl, rfl⟩
            go_wp2_with fail
            refine (rword_any HT3.out.rs a0 a1).mono ?_
            rintro e w7 ⟨rfl, rfl⟩
            generalize ((wordV n L2 a0 a1).1 : Int) = v3
            generalize (wordV n L2 a0 a1).2 = v4
            go_wp2_with fail
            go_quiet (first | (with_reducible exact Calls.quiet_of (HSM.out _)) | (with_reducible exact Calls.quiet_of (HSR.out _)))
            go_wp2_with fail
            go_roundw
            case rel => exact ⟨q + 1, L2, by omega, by go_num, HT3.out.grow (grown_drewN w6 _ none), HX3.out⟩
            case measure => simp [intOf]; omega
        · obtain ⟨cap, hrc, hcap⟩ := HT.out.rs.mem.cellR
          have HLn := Lib.hid HT.out.st.len
          go_wp2_with fail
          go_loopw [124] (fun k wr => ∃ i : Nat, i ≤ n ∧ k = .int .i64 i ∧ Two w wr m d r f n R L L ∧ At wr w.heap.size a0 a1) (fun k _ => n - (intOf k).toNat)
          case atStart => exact ⟨0, by omega, rfl, HT.out, HX.out⟩
          case round =>
            clear hrc
            obtain ⟨i, hi, rfl, hT, hX⟩ := hrel
            have HT4 := Lib.hid hT
            have HX4 := Lib.hid hX
            obtain ⟨cap4, hrc4, hcap4⟩ := hT.rs.mem.cellR
            by_cases hlt4 : i < n
            · obtain ⟨p, hp, hpc, hrow⟩ := hT.rs.mem.row i hlt4
              have HPR := Lib.hid hrow
              have HPL : Hid ((pageOf L i).length = 4096) := pageOf_length HLn.out i hlt4
              have HTD : Hid (Two w wr.drew m d r f n R L L) := hT.grow (grown_drewN wr 1 none)
              clear hT hX hp hrow
              go_wp2_with fail
              go_region_with (first | (go_at_call 23; refine (pageE HTD.out.st _ i rfl hlt4).mono ?_; rintro e w5 ⟨rfl, -, hG5, hp5⟩; have hrc5 := (World.grownBy.cell hG5 hrc4 (by simp)); have hpc5 := (World.grownBy.cell hG5 hpc (by simp)); have HA5 := Lib.hid (Src.of_block hp5); rw [HPL.out] at HA5; have HB5 := Lib.hid (Src.of_block (blk_kept HPR.out (grown_trans (grown_drewN wr 1 none) hG5) (by simp))); rw [HPL.out] at HB5; have HT5 := Lib.hid (HTD.out.grow hG5); have HX5 : Hid (At w5 w.heap.size a0 a1) := blk_kept HX4.out (grown_trans (grown_drewN wr 1 none) hG5) (by simp); clear hG5 hp5) | (go_at_call 22; refine (bytesEq HA5.out HB5.out _ _ true (by simp)).mono ?_; rintro e w6 ⟨rfl, rfl⟩))
              all_goals
                go_wp2_with fail
                go_roundw
                case rel => exact ⟨i + 1, by omega, by go_num, HT5.out, HX5.out⟩
                case measure => simp [intOf]; omega
            · obtain ⟨x0, x1⟩ := hX.cells
              have HTD : Hid (Two w wr.drew m d r f n R L L) := hT.grow (grown_drewN wr 1 none)
              clear hT hX
              have HPM : Hid (∀ w', Two w w' m d r f n R L L → Calls Try.prog 23 #[.pointer (some ⟨m, 0, none⟩), .int .i64 a0] w' (Len w' (pageN n a0))) := fun w' h => page_any h.st a0
              have HPR : Hid (∀ w', Two w w' m d r f n R L L → Calls Try.prog 25 #[.pointer (some ⟨r, 0, none⟩), .int .i64 a0] w' (Len w' (pageN n a0))) := fun w' h => rpage_any h.rs a0
              generalize pageN n a0 = pl at *
              go_wp2_with fail
              have hk0 : wr.drew.cell? ⟨w.heap.size, 0, none⟩ = some (.int .i64 a0) ∧ wr.drew.cell? ⟨r, 0, none⟩ = some (.slice (some ⟨f, 0, none⟩) n cap4) := ⟨x0, hrc4⟩
              go_region_held3 (fun w' => w'.cell? ⟨w.heap.size, 0, none⟩ = some (.int .i64 a0) ∧ w'.cell? ⟨r, 0, none⟩ = some (.slice (some ⟨f, 0, none⟩) n cap4))
                (first | exact hk0 | exact hk5 | exact hk6 | exact hk7)
                (first | (go_at_call 24; refine (framesE HTD.out.st).mono ?_; rintro e w5 ⟨rfl, rfl⟩) | (go_at_call 23; first | (refine (HPM.out _ HT5.out).mono ?_; rintro e w6 ⟨s6, c6, rfl, hG6⟩; have HT6 := Lib.hid (HT5.out.grow hG6); have hk6 := And.intro (World.grownBy.cell hG6 hk5.1 (by simp)) (World.grownBy.cell hG6 hk5.2 (by simp)); clear hG6) | (refine (HPM.out _ HTD.out).mono ?_; rintro e w5 ⟨s5, c5, rfl, hG5⟩; have HT5 := Lib.hid (HTD.out.grow hG5); have hk5 := And.intro (World.grownBy.cell hG5 hk0.1 (by simp)) (World.grownBy.cell hG5 hk0.2 (by simp)); clear hG5)) | (go_at_call 25; first | (refine (HPR.out _ HT5.out).mono ?_; rintro e w6 ⟨s6, c6, rfl, hG6⟩; have HT6 := Lib.hid (HT5.out.grow hG6); have hk6 := And.intro (World.grownBy.cell hG6 hk5.1 (by simp)) (World.grownBy.cell hG6 hk5.2 (by simp)); clear hG6) | (refine (HPR.out _ HTD.out).mono ?_; rintro e w5 ⟨s5, c5, rfl, hG5⟩; have HT5 := Lib.hid (HTD.out.grow hG5); have hk5 := And.intro (World.grownBy.cell hG5 hk0.1 (by simp)) (World.grownBy.cell hG5 hk0.2 (by simp)); clear hG5)) | (go_at_call 11; refine (lives_ok _).mono ?_; rintro e w7 ⟨rfl, hG7⟩; have HT7 := Lib.hid (HT6.out.grow hG7); have hk7 := And.intro (World.grownBy.cell hG7 hk6.1 (by simp)) (World.grownBy.cell hG7 hk6.2 (by simp)); clear hG7))
              all_goals
                go_wp2_with fail
                go_ret
                exact ⟨rfl, HT7.out.st.below⟩
    · have HN := Lib.hid hN
      clear hN
      go_enter Try.func3, Try.ntmps3
      go_wp2_with fail
      refine (light_any _ s l c As (HAS.out.below (HBA.out _)) true (by simpa using HLI.out)).mono ?_
      rintro e w1 ⟨rfl, hb1⟩
      have HB1 : Hid (Below w.heap.size w w1) := (HBA.out _).trans (hb1.mono (by simp))
      clear hb1
      go_wp2_with fail
      refine (new_no N _ HN.out).mono ?_
      rintro e w2 ⟨rfl, rfl⟩
      go_wp2_with fail
      refine (rnew_no N _ HN.out).mono ?_
      rintro e w2 ⟨rfl, rfl⟩
      go_wp2_with fail
      refine (lives_ok _).mono ?_
      rintro e w2 ⟨rfl, hG⟩
      have HB2 : Hid (Below w.heap.size w w2) := HB1.out.grown hG HB1.out.size (by simp)
      clear hG
      go_wp2_with fail
      go_ret
      exact ⟨rfl, HB2.out⟩
  · have HLI := Lib.hid hlight
    clear hlight
    go_enter Try.func3, Try.ntmps3
    go_wp2_with fail
    refine (light_any _ s l c As (HAS.out.below (HBA.out _)) false (by simpa using HLI.out)).mono ?_
    rintro e w1 ⟨rfl, hb1⟩
    have HB1 : Hid (Below w.heap.size w w1) := (HBA.out _).trans (hb1.mono (by simp))
    clear hb1
    go_wp2_with fail
    refine (lives_ok _).mono ?_
    rintro e w2 ⟨rfl, hG⟩
    have HB2 : Hid (Below w.heap.size w w2) := HB1.out.grown hG HB1.out.size (by simp)
    clear hG
    go_wp2_with fail
    go_ret
    exact ⟨rfl, HB2.out⟩
end Go.Proofs.Ytdkfgniajlbifaa
