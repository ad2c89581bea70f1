/- The document's own rows: Push, Turn. -/
import Derived.Test.YtnjpdcoahojgbaaRRef4
namespace Go.Proofs.Ytnjpdcoahojgbaa.RInt
open Go.ChangeShapes Go.WideShapes Go.ChangeAt Go.RowKit Go.Deep
set_option linter.unusedVariables false

section
variable {w w' : World} {base r T : Nat} {S : List (List Int)} {vs : List Value}

theorem ref_push (h : RefIs w base r T S vs) (hS : S.flatten.Nodup) (row x : Int) :
    Calls Try.prog 14 #[.pointer (some ⟨r, 0, none⟩), .int .i64 row, .int .i64 x] w (RefNow w base r T vs (pushS row x S) (.bool (decide (fits row x S)))) := by
  have HR := Lib.hid h
  have HS := Lib.hid hS
  clear h hS
  by_cases hf : fits row x S
  · have HF := Lib.hid hf
    obtain ⟨ρ, rfl⟩ := Int.eq_ofNat_of_zero_le hf.1
    have hρ : ρ < S.length := by have := hf.2.1; omega
    have HM := Lib.hid (ref_may HR.out (ρ : Int) x)
    rw [decide_eq_true hf] at HM ⊢
    have hρ2 : ρ < (rmv x S).length := by rw [rmv_length]; exact hρ
    obtain ⟨l, hl⟩ : ∃ l, (rmv x S)[ρ]? = some l := ⟨_, List.getElem?_eq_getElem hρ2⟩
    have HPUSH := Lib.hid (show pushS (ρ : Int) x S = (rmv x S).set ρ (l ++ [x]) by unfold pushS; rw [if_pos hf, Int.toNat_natCast, modify_is _ hl])
    clear hf hρ
    go_enter Try.func14, Try.ntmps14
    go_wp2_with fail
    refine (HM.out.mono ?_)
    rintro e w1 ⟨rfl, rfl⟩
    go_wp2_with fail
    refine ((ref_remove HR.out HS.out x).mono ?_)
    rintro e w1 ⟨rfl, vs1, h1, h2, h3⟩
    have hc := h1.cell
    obtain ⟨a, c, hat, hn⟩ := h1.at hl
    have hmax := h1.max1 hl
    have hle := h1.le
    have hT := h1.tlt
    have hne : ¬ r = T := h1.ne
    have hr := h1.rlt
    have H1 := Lib.hid h1
    have H2 := Lib.hid h2
    have H3 := Lib.hid h3
    have HI := Lib.hid hn.ints
    have HL := Lib.hid hl
    have bD : Below w1.heap.size w1 w1.drew := (Below.refl _ _).drew
    have bE : Below w1.heap.size w1 (w1.alloc (.cells #[] 3)).drew := bD.alloc (Nat.le_refl _) (.cells #[] 3)
    have bX : Below w1.heap.size w1 (w1.alloc (.cells #[.int .i64 x] 3)).drew := bD.alloc (Nat.le_refl _) (.cells #[.int .i64 x] 3)
    have bEX : Below w1.heap.size w1 ((w1.alloc (.cells #[] 3)).alloc (.cells #[.int .i64 x] 3)).drew := bE.alloc (by simp) (.cells #[.int .i64 x] 3)
    have bXE : Below w1.heap.size w1 ((w1.alloc (.cells #[.int .i64 x] 3)).alloc (.cells #[] 3)).drew := bX.alloc (by simp) (.cells #[] 3)
    have t0 := (bD.cell (p := ⟨T, ρ, none⟩) hT).trans hat
    have t1 := (bE.cell (p := ⟨T, ρ, none⟩) hT).trans hat
    have t2 := (bX.cell (p := ⟨T, ρ, none⟩) hT).trans hat
    have t3 := (bEX.cell (p := ⟨T, ρ, none⟩) hT).trans hat
    have t4 := (bXE.cell (p := ⟨T, ρ, none⟩) hT).trans hat
    have hc0 : w1.drew.cell? ⟨r, 0, none⟩ = some (.slice (some ⟨T, 0, none⟩) (rmv x S).length (rmv x S).length) := hc
    have HT0 := Lib.hid hT
    have HR0 := Lib.hid hr
    have HC := Lib.hid hc
    have BE := Lib.hid bE
    have BEX := Lib.hid bEX
    have BXE := Lib.hid bXE
    have NE := Lib.hid (nums_empty (W := (w1.alloc (.cells #[] 3)).drew) (base := w1.heap.size) (k := w1.heap.size) (heap_alloc_new w1 _) (Nat.le_refl _))
    have NEX := Lib.hid (nums_empty (W := ((w1.alloc (.cells #[] 3)).alloc (.cells #[.int .i64 x] 3)).drew) (base := w1.heap.size) (k := w1.heap.size) ((Below.heap_alloc (w1.alloc (.cells #[] 3)) _ _ (by simp)).trans (heap_alloc_new w1 _)) (Nat.le_refl _))
    have NXE := Lib.hid (nums_empty (W := ((w1.alloc (.cells #[.int .i64 x] 3)).alloc (.cells #[] 3)).drew) (base := w1.heap.size) (k := w1.heap.size + 1) (by have h9 := heap_alloc_new (w1.alloc (.cells #[.int .i64 x] 3)) (.cells #[] 3); rw [World.size_alloc] at h9; exact h9) (by omega))
    have XEX := Lib.hid (show ((w1.alloc (.cells #[] 3)).alloc (.cells #[.int .i64 x] 3)).drew.heap[w1.heap.size + 1]? = some (.cells #[.int .i64 x] 3 (0, 0)) by have h9 := heap_alloc_new (w1.alloc (.cells #[] 3)) (.cells #[.int .i64 x] 3); rw [World.size_alloc] at h9; exact h9)
    have XXE := Lib.hid (show ((w1.alloc (.cells #[.int .i64 x] 3)).alloc (.cells #[] 3)).drew.heap[w1.heap.size]? = some (.cells #[.int .i64 x] 3 (0, 0)) from (Below.heap_alloc (w1.alloc (.cells #[.int .i64 x] 3)) _ _ (by simp)).trans (heap_alloc_new w1 _))
    clear bD bE bX bEX bXE hT hr h1 h2 h3 hn hl
    go_wp2_with fail
    refine wp_region_held_drew (S := fun w' => w'.cell? ⟨r, 0, none⟩ = some (.slice (some ⟨T, 0, none⟩) (rmv x S).length (rmv x S).length)) (by kernel_rfl) hc0 (fun hHeld => ?_)
    refine' wpAnyH_take (i := 0) (oi := ?oi101) (v := ?v101) ?hi101 ?hs101 ?hf101 ?hr101 ?hQ101 ?hy101 ?hS101 ?rest101
    case hi101 => exact rfl
    case hs101 => kernel_rfl
    case hf101 => kernel_rfl
    case hr101 => kernel_rfl
    case hQ101 => exact fun _ _ _ h => h
    case hS101 => assumption
    case hy101 =>
      refine Or.inl ⟨by rfl, ?_⟩
      intro w hSw
      try dsimp only at hSw
      go_simp
      try with_reducible rfl
    try simp only [Act.put, List.setIfInBounds_toArray, List.set_cons_zero, List.set_cons_succ]
    refine' wpAnyH_take (i := 1) (oi := ?oi102) (v := ?v102) ?hi102 ?hs102 ?hf102 ?hr102 ?hQ102 ?hy102 ?hS102 ?rest102
    case hi102 => exact rfl
    case hs102 => kernel_rfl
    case hf102 => kernel_rfl
    case hr102 => kernel_rfl
    case hQ102 => exact fun _ _ _ h => h
    case hS102 => assumption
    case hy102 =>
      refine Or.inl ⟨by rfl, ?_⟩
      intro w hSw
      try dsimp only at hSw
      go_simp
      try with_reducible rfl
    try simp only [Act.put, List.setIfInBounds_toArray, List.set_cons_zero, List.set_cons_succ]
    refine' wpAnyH_take (i := 2) (oi := ?oi103) (v := ?v103) ?hi103 ?hs103 ?hf103 ?hr103 ?hQ103 ?hy103 ?hS103 ?rest103
    case hi103 => exact rfl
    case hs103 => kernel_rfl
    case hf103 => kernel_rfl
    case hr103 => kernel_rfl
    case hQ103 => exact fun _ _ _ h => h
    case hS103 => assumption
    case hy103 =>
      refine Or.inl ⟨by rfl, ?_⟩
      intro w hSw
      try dsimp only at hSw
      go_simp
      try with_reducible rfl
    try simp only [Act.put, List.setIfInBounds_toArray, List.set_cons_zero, List.set_cons_succ]
    refine' wpAnyH_take (i := 3) (oi := ?oi104) (v := ?v104) ?hi104 ?hs104 ?hf104 ?hr104 ?hQ104 ?hy104 ?hS104 ?rest104
    case hi104 => exact rfl
    case hs104 => kernel_rfl
    case hf104 => kernel_rfl
    case hr104 => kernel_rfl
    case hQ104 => exact fun _ _ _ h => h
    case hS104 => assumption
    case hy104 =>
      refine Or.inl ⟨by rfl, ?_⟩
      intro w hSw
      try dsimp only at hSw
      go_simp
      try with_reducible rfl
    try simp only [Act.put, List.setIfInBounds_toArray, List.set_cons_zero, List.set_cons_succ]
    refine' wpAnyH_take (i := 4) (oi := ?oi105) (v := ?v105) ?hi105 ?hs105 ?hf105 ?hr105 ?hQ105 ?hy105 ?hS105 ?rest105
    case hi105 => exact rfl
    case hs105 => kernel_rfl
    case hf105 => kernel_rfl
    case hr105 => kernel_rfl
    case hQ105 => exact fun _ _ _ h => h
    case hS105 => assumption
    case hy105 =>
      refine Or.inl ⟨by rfl, ?_⟩
      intro w hSw
      try dsimp only at hSw
      go_simp
      try with_reducible rfl
    try simp only [Act.put, List.setIfInBounds_toArray, List.set_cons_zero, List.set_cons_succ]
    refine' wpAnyH_take (i := 6) (oi := ?oi106) (v := ?v106) ?hi106 ?hs106 ?hf106 ?hr106 ?hQ106 ?hy106 ?hS106 ?rest106
    case hi106 => exact rfl
    case hs106 => kernel_rfl
    case hf106 => kernel_rfl
    case hr106 => kernel_rfl
    case hQ106 => exact fun _ _ _ h => h
    case hS106 => assumption
    case hy106 =>
      refine Or.inl ⟨by rfl, ?_⟩
      intro w hSw
      try dsimp only at hSw
      go_simp
      try with_reducible rfl
    try simp only [Act.put, List.setIfInBounds_toArray, List.set_cons_zero, List.set_cons_succ]
    refine' wpAnyH_take (i := 7) (oi := ?oi107) (v := ?v107) ?hi107 ?hs107 ?hf107 ?hr107 ?hQ107 ?hy107 ?hS107 ?rest107
    case hi107 => exact rfl
    case hs107 => kernel_rfl
    case hf107 => kernel_rfl
    case hr107 => kernel_rfl
    case hQ107 => exact fun _ _ _ h => h
    case hS107 => assumption
    case hy107 =>
      refine Or.inl ⟨by rfl, ?_⟩
      intro w hSw
      try dsimp only at hSw
      go_simp
      try with_reducible rfl
    try simp only [Act.put, List.setIfInBounds_toArray, List.set_cons_zero, List.set_cons_succ]
    refine' wpAnyH_take (i := 8) (oi := ?oi108) (v := ?v108) ?hi108 ?hs108 ?hf108 ?hr108 ?hQ108 ?hy108 ?hS108 ?rest108
    case hi108 => exact rfl
    case hs108 => kernel_rfl
    case hf108 => kernel_rfl
    case hr108 => kernel_rfl
    case hQ108 => exact fun _ _ _ h => h
    case hS108 => assumption
    case hy108 =>
      refine Or.inl ⟨by rfl, ?_⟩
      intro w hSw
      try dsimp only at hSw
      go_simp
      try with_reducible rfl
    try simp only [Act.put, List.setIfInBounds_toArray, List.set_cons_zero, List.set_cons_succ]
    refine' wpAnyH_take (i := 9) (oi := ?oi109) (v := ?v109) ?hi109 ?hs109 ?hf109 ?hr109 ?hQ109 ?hy109 ?hS109 ?rest109
    case hi109 => exact rfl
    case hs109 => kernel_rfl
    case hf109 => kernel_rfl
    case hr109 => kernel_rfl
    case hQ109 => exact fun _ _ _ h => h
    case hS109 => assumption
    case hy109 =>
      refine Or.inl ⟨by rfl, ?_⟩
      intro w hSw
      try dsimp only at hSw
      go_simp
      try with_reducible rfl
    try simp only [Act.put, List.setIfInBounds_toArray, List.set_cons_zero, List.set_cons_succ]
    refine' wpAnyH_take (i := 10) (oi := ?oi110) (v := ?v110) ?hi110 ?hs110 ?hf110 ?hr110 ?hQ110 ?hy110 ?hS110 ?rest110
    case hi110 => exact rfl
    case hs110 => kernel_rfl
    case hf110 => kernel_rfl
    case hr110 => kernel_rfl
    case hQ110 => exact fun _ _ _ h => h
    case hS110 => assumption
    case hy110 =>
      refine Or.inl ⟨by rfl, ?_⟩
      intro w hSw
      try dsimp only at hSw
      go_simp
      try with_reducible rfl
    try simp only [Act.put, List.setIfInBounds_toArray, List.set_cons_zero, List.set_cons_succ]
    refine' wpAnyH_take (i := 11) (oi := ?oi111) (v := ?v111) ?hi111 ?hs111 ?hf111 ?hr111 ?hQ111 ?hy111 ?hS111 ?rest111
    case hi111 => exact rfl
    case hs111 => kernel_rfl
    case hf111 => kernel_rfl
    case hr111 => kernel_rfl
    case hQ111 => exact fun _ _ _ h => h
    case hS111 => assumption
    case hy111 =>
      refine Or.inl ⟨by rfl, ?_⟩
      intro w hSw
      try dsimp only at hSw
      go_simp
      try with_reducible rfl
    try simp only [Act.put, List.setIfInBounds_toArray, List.set_cons_zero, List.set_cons_succ]
    refine' wpAnyH_take (i := 14) (oi := ?oi112) (v := ?v112) ?hi112 ?hs112 ?hf112 ?hr112 ?hQ112 ?hy112 ?hS112 ?rest112
    case hi112 => exact rfl
    case hs112 => kernel_rfl
    case hf112 => kernel_rfl
    case hr112 => kernel_rfl
    case hQ112 => exact fun _ _ _ h => h
    case hS112 => assumption
    case hy112 =>
      refine Or.inl ⟨by rfl, ?_⟩
      intro w hSw
      try dsimp only at hSw
      go_simp
      try with_reducible rfl
    try simp only [Act.put, List.setIfInBounds_toArray, List.set_cons_zero, List.set_cons_succ]
    refine wpAnyH_ready (rs := [5, 12, 15]) (by kernel_rfl) (by simp) ?_
    refine' AllReadyH.cons (o := ?o113) ?ho113 ?h113 ?hs113
    case ho113 => exact rfl
    case h113 =>
      intro K hK
      go_simp
      refine hK.out _ _ ?_ (fun hHeld => ?_)
      · (try dsimp only); go_keep
      clear hK K
      try simp only [Act.put, List.setIfInBounds_toArray, List.set_cons_zero, List.set_cons_succ]
      refine wpAnyH_ready (rs := [12, 15]) (by kernel_rfl) (by simp) ?_
      refine' AllReadyH.cons (o := ?o114) ?ho114 ?h114 ?hs114
      case ho114 => exact rfl
      case h114 =>
        intro K hK
        go_simp
        refine hK.out _ _ ?_ (fun hHeld => ?_)
        · (try dsimp only); go_keep
        clear hK K
        try simp only [Act.put, List.setIfInBounds_toArray, List.set_cons_zero, List.set_cons_succ]
        refine wpAnyH_ready (rs := [13, 15]) (by kernel_rfl) (by simp) ?_
        refine' AllReadyH.cons (o := ?o115) ?ho115 ?h115 ?hs115
        case ho115 => exact rfl
        case h115 =>
          intro K hK
          refine step_append_ints rfl _ _ rfl w1.heap.size (.slice (some ⟨w1.heap.size, 0, none⟩) 0 0) [] rfl NE.out a l.length c l rfl (HI.out.below BE.out) (by simp; omega) (by simp <;> omega) l.length (by simp) ?_
          intro g cap w2 hn hk hb
          have hb2 := BE.out.trans (hk.below _ (by simp <;> omega) (by simp [Value.ownBlock]))
          have HN2 : Hid (Nums w2 w1.heap.size (.slice g l.length cap) l) := hn
          have HB2 := Lib.hid hb2
          have hc2 := (hb2.cell (p := ⟨r, 0, none⟩) HR0.out).trans HC.out
          clear hn hk hb hb2
          refine hK.out _ _ ?_ (fun hHeld => ?_)
          · (try dsimp only); exact hc2
          clear hK K
          try simp only [Act.put, List.setIfInBounds_toArray, List.set_cons_zero, List.set_cons_succ]
          refine wpAnyH_ready (rs := [15]) (by kernel_rfl) (by simp) ?_
          refine' AllReadyH.cons (o := ?o116) ?ho116 ?h116 ?hs116
          case ho116 => exact rfl
          case h116 =>
            intro K hK
            go_simp
            refine hK.out _ _ ?_ (fun hHeld => ?_)
            · (try dsimp only); go_keep
            clear hK K
            try simp only [Act.put, List.setIfInBounds_toArray, List.set_cons_zero, List.set_cons_succ]
            refine wpAnyH_ready (rs := [16]) (by kernel_rfl) (by simp) ?_
            refine' AllReadyH.cons (o := ?o117) ?ho117 ?h117 ?hs117
            case ho117 => exact rfl
            case h117 =>
              intro K hK
              refine step_append_ints rfl _ _ rfl w1.heap.size (.slice g l.length cap) l rfl (World.ownsRow.alloc HN2.out _) (some ⟨w2.heap.size, 0, none⟩) 1 1 [x] rfl (ints_one (heap_alloc_new w2 _)) (by omega) (by have := HB2.out.size; simp; try omega) (l.length + 1) rfl ?_
              intro g3 cap3 w3 hn hk hb
              have hb3 := (HB2.out.alloc HB2.out.size _).trans (hk.below w1.heap.size (by have := HB2.out.size; simp; try omega) fun b hb => (HN2.out.lt (by simpa using hb)).1)
              have HN3 := Lib.hid hn
              have HB3 := Lib.hid hb3
              have hc3 := (hb3.cell (p := ⟨r, 0, none⟩) HR0.out).trans HC.out
              have HR3 := Lib.hid (H1.out.past hb3)
              have hf3 := HR3.out.frozen ρ
              obtain ⟨a3, c3, ht3, -⟩ := HR3.out.at HL.out
              clear hn hk hb hb3
              refine hK.out _ _ ?_ (fun hHeld => ?_)
              · (try dsimp only); exact hc3
              clear hK K
              try simp only [Act.put, List.setIfInBounds_toArray, List.set_cons_zero, List.set_cons_succ]
              refine' wpAnyH_take (i := 17) (oi := ?oi118) (v := ?v118) ?hi118 ?hs118 ?hf118 ?hr118 ?hQ118 ?hy118 ?hS118 ?rest118
              case hi118 => exact rfl
              case hs118 => kernel_rfl
              case hf118 => kernel_rfl
              case hr118 => kernel_rfl
              case hQ118 => exact fun _ _ _ h => h
              case hS118 => assumption
              case hy118 =>
                refine Or.inl ⟨by rfl, ?_⟩
                intro w hSw
                try dsimp only at hSw
                go_simp
                try with_reducible rfl
              try simp only [Act.put, List.setIfInBounds_toArray, List.set_cons_zero, List.set_cons_succ]
              refine wpAnyH_ready (rs := [18]) (by kernel_rfl) (by simp) ?_
              refine' AllReadyH.cons (o := ?o119) ?ho119 ?h119 ?hs119
              case ho119 => exact rfl
              case h119 =>
                intro K hK
                go_simp
                refine hK.out _ _ ?_ (fun hHeld => ?_)
                · (try dsimp only); exact (World.cell?_of_block (a := ⟨r, 0, none⟩) (heap_setCell_other _ _ _ _ hne)).trans hc3
                clear hK K
                try simp only [Act.put, List.setIfInBounds_toArray, List.set_cons_zero, List.set_cons_succ]
                refine wpAnyH_done (by kernel_rfl) ?_ _
                go_wp2
                go_ret
                exact RefNow.stored H1.out H2.out H3.out HB3.out hρ2 HN3.out (put_max HS.out HF.out HR.out.max HL.out (by simp)) HPUSH.out
              exact AllReadyH.nil
            exact AllReadyH.nil
          exact AllReadyH.nil
        refine' AllReadyH.cons (o := ?o120) ?ho120 ?h120 ?hs120
        case ho120 => exact rfl
        case h120 =>
          intro K hK
          go_simp
          refine hK.out _ _ ?_ (fun hHeld => ?_)
          · (try dsimp only); go_keep
          clear hK K
          try simp only [Act.put, List.setIfInBounds_toArray, List.set_cons_zero, List.set_cons_succ]
          refine wpAnyH_ready (rs := [13]) (by kernel_rfl) (by simp) ?_
          refine' AllReadyH.cons (o := ?o121) ?ho121 ?h121 ?hs121
          case ho121 => exact rfl
          case h121 =>
            intro K hK
            refine step_append_ints rfl _ _ rfl w1.heap.size (.slice (some ⟨w1.heap.size, 0, none⟩) 0 0) [] rfl NEX.out a l.length c l rfl (HI.out.below BEX.out) (by simp; omega) (by simp <;> omega) l.length (by simp) ?_
            intro g cap w2 hn hk hb
            have hb2 := BEX.out.trans (hk.below _ (by simp <;> omega) (by simp [Value.ownBlock]))
            have HN2 : Hid (Nums w2 w1.heap.size (.slice g l.length cap) l) := hn
            have HB2 := Lib.hid hb2
            have hc2 := (hb2.cell (p := ⟨r, 0, none⟩) HR0.out).trans HC.out
            have IX := Lib.hid (ints_one ((hk.block (w1.heap.size + 1) (by simp <;> omega) (by simp [Value.ownBlock])).trans XEX.out))
            clear hn hk hb hb2
            refine hK.out _ _ ?_ (fun hHeld => ?_)
            · (try dsimp only); exact hc2
            clear hK K
            try simp only [Act.put, List.setIfInBounds_toArray, List.set_cons_zero, List.set_cons_succ]
            refine wpAnyH_ready (rs := [16]) (by kernel_rfl) (by simp) ?_
            refine' AllReadyH.cons (o := ?o122) ?ho122 ?h122 ?hs122
            case ho122 => exact rfl
            case h122 =>
              intro K hK
              refine step_append_ints rfl _ _ rfl w1.heap.size (.slice g l.length cap) l rfl HN2.out (some ⟨w1.heap.size + 1, 0, none⟩) 1 1 [x] rfl IX.out (by omega) (by have := HB2.out.size; simp; try omega) (l.length + 1) rfl ?_
              intro g3 cap3 w3 hn hk hb
              have hb3 := HB2.out.trans (hk.below w1.heap.size (by have := HB2.out.size; simp; try omega) fun b hb => (HN2.out.lt (by simpa using hb)).1)
              have HN3 := Lib.hid hn
              have HB3 := Lib.hid hb3
              have hc3 := (hb3.cell (p := ⟨r, 0, none⟩) HR0.out).trans HC.out
              have HR3 := Lib.hid (H1.out.past hb3)
              have hf3 := HR3.out.frozen ρ
              obtain ⟨a3, c3, ht3, -⟩ := HR3.out.at HL.out
              clear hn hk hb hb3
              refine hK.out _ _ ?_ (fun hHeld => ?_)
              · (try dsimp only); exact hc3
              clear hK K
              try simp only [Act.put, List.setIfInBounds_toArray, List.set_cons_zero, List.set_cons_succ]
              refine' wpAnyH_take (i := 17) (oi := ?oi123) (v := ?v123) ?hi123 ?hs123 ?hf123 ?hr123 ?hQ123 ?hy123 ?hS123 ?rest123
              case hi123 => exact rfl
              case hs123 => kernel_rfl
              case hf123 => kernel_rfl
              case hr123 => kernel_rfl
              case hQ123 => exact fun _ _ _ h => h
              case hS123 => assumption
              case hy123 =>
                refine Or.inl ⟨by rfl, ?_⟩
                intro w hSw
                try dsimp only at hSw
                go_simp
                try with_reducible rfl
              try simp only [Act.put, List.setIfInBounds_toArray, List.set_cons_zero, List.set_cons_succ]
              refine wpAnyH_ready (rs := [18]) (by kernel_rfl) (by simp) ?_
              refine' AllReadyH.cons (o := ?o124) ?ho124 ?h124 ?hs124
              case ho124 => exact rfl
              case h124 =>
                intro K hK
                go_simp
                refine hK.out _ _ ?_ (fun hHeld => ?_)
                · (try dsimp only); exact (World.cell?_of_block (a := ⟨r, 0, none⟩) (heap_setCell_other _ _ _ _ hne)).trans hc3
                clear hK K
                try simp only [Act.put, List.setIfInBounds_toArray, List.set_cons_zero, List.set_cons_succ]
                refine wpAnyH_done (by kernel_rfl) ?_ _
                go_wp2
                go_ret
                exact RefNow.stored H1.out H2.out H3.out HB3.out hρ2 HN3.out (put_max HS.out HF.out HR.out.max HL.out (by simp)) HPUSH.out
              exact AllReadyH.nil
            exact AllReadyH.nil
          exact AllReadyH.nil
        exact AllReadyH.nil
      refine' AllReadyH.cons (o := ?o125) ?ho125 ?h125 ?hs125
      case ho125 => exact rfl
      case h125 =>
        intro K hK
        go_simp
        refine hK.out _ _ ?_ (fun hHeld => ?_)
        · (try dsimp only); go_keep
        clear hK K
        try simp only [Act.put, List.setIfInBounds_toArray, List.set_cons_zero, List.set_cons_succ]
        refine wpAnyH_ready (rs := [12]) (by kernel_rfl) (by simp) ?_
        refine' AllReadyH.cons (o := ?o126) ?ho126 ?h126 ?hs126
        case ho126 => exact rfl
        case h126 =>
          intro K hK
          go_simp
          refine hK.out _ _ ?_ (fun hHeld => ?_)
          · (try dsimp only); go_keep
          clear hK K
          try simp only [Act.put, List.setIfInBounds_toArray, List.set_cons_zero, List.set_cons_succ]
          refine wpAnyH_ready (rs := [13]) (by kernel_rfl) (by simp) ?_
          refine' AllReadyH.cons (o := ?o127) ?ho127 ?h127 ?hs127
          case ho127 => exact rfl
          case h127 =>
            intro K hK
            refine step_append_ints rfl _ _ rfl w1.heap.size (.slice (some ⟨w1.heap.size, 0, none⟩) 0 0) [] rfl NEX.out a l.length c l rfl (HI.out.below BEX.out) (by simp; omega) (by simp <;> omega) l.length (by simp) ?_
            intro g cap w2 hn hk hb
            have hb2 := BEX.out.trans (hk.below _ (by simp <;> omega) (by simp [Value.ownBlock]))
            have HN2 : Hid (Nums w2 w1.heap.size (.slice g l.length cap) l) := hn
            have HB2 := Lib.hid hb2
            have hc2 := (hb2.cell (p := ⟨r, 0, none⟩) HR0.out).trans HC.out
            have IX := Lib.hid (ints_one ((hk.block (w1.heap.size + 1) (by simp <;> omega) (by simp [Value.ownBlock])).trans XEX.out))
            clear hn hk hb hb2
            refine hK.out _ _ ?_ (fun hHeld => ?_)
            · (try dsimp only); exact hc2
            clear hK K
            try simp only [Act.put, List.setIfInBounds_toArray, List.set_cons_zero, List.set_cons_succ]
            refine wpAnyH_ready (rs := [16]) (by kernel_rfl) (by simp) ?_
            refine' AllReadyH.cons (o := ?o128) ?ho128 ?h128 ?hs128
            case ho128 => exact rfl
            case h128 =>
              intro K hK
              refine step_append_ints rfl _ _ rfl w1.heap.size (.slice g l.length cap) l rfl HN2.out (some ⟨w1.heap.size + 1, 0, none⟩) 1 1 [x] rfl IX.out (by omega) (by have := HB2.out.size; simp; try omega) (l.length + 1) rfl ?_
              intro g3 cap3 w3 hn hk hb
              have hb3 := HB2.out.trans (hk.below w1.heap.size (by have := HB2.out.size; simp; try omega) fun b hb => (HN2.out.lt (by simpa using hb)).1)
              have HN3 := Lib.hid hn
              have HB3 := Lib.hid hb3
              have hc3 := (hb3.cell (p := ⟨r, 0, none⟩) HR0.out).trans HC.out
              have HR3 := Lib.hid (H1.out.past hb3)
              have hf3 := HR3.out.frozen ρ
              obtain ⟨a3, c3, ht3, -⟩ := HR3.out.at HL.out
              clear hn hk hb hb3
              refine hK.out _ _ ?_ (fun hHeld => ?_)
              · (try dsimp only); exact hc3
              clear hK K
              try simp only [Act.put, List.setIfInBounds_toArray, List.set_cons_zero, List.set_cons_succ]
              refine' wpAnyH_take (i := 17) (oi := ?oi129) (v := ?v129) ?hi129 ?hs129 ?hf129 ?hr129 ?hQ129 ?hy129 ?hS129 ?rest129
              case hi129 => exact rfl
              case hs129 => kernel_rfl
              case hf129 => kernel_rfl
              case hr129 => kernel_rfl
              case hQ129 => exact fun _ _ _ h => h
              case hS129 => assumption
              case hy129 =>
                refine Or.inl ⟨by rfl, ?_⟩
                intro w hSw
                try dsimp only at hSw
                go_simp
                try with_reducible rfl
              try simp only [Act.put, List.setIfInBounds_toArray, List.set_cons_zero, List.set_cons_succ]
              refine wpAnyH_ready (rs := [18]) (by kernel_rfl) (by simp) ?_
              refine' AllReadyH.cons (o := ?o130) ?ho130 ?h130 ?hs130
              case ho130 => exact rfl
              case h130 =>
                intro K hK
                go_simp
                refine hK.out _ _ ?_ (fun hHeld => ?_)
                · (try dsimp only); exact (World.cell?_of_block (a := ⟨r, 0, none⟩) (heap_setCell_other _ _ _ _ hne)).trans hc3
                clear hK K
                try simp only [Act.put, List.setIfInBounds_toArray, List.set_cons_zero, List.set_cons_succ]
                refine wpAnyH_done (by kernel_rfl) ?_ _
                go_wp2
                go_ret
                exact RefNow.stored H1.out H2.out H3.out HB3.out hρ2 HN3.out (put_max HS.out HF.out HR.out.max HL.out (by simp)) HPUSH.out
              exact AllReadyH.nil
            exact AllReadyH.nil
          exact AllReadyH.nil
        exact AllReadyH.nil
      exact AllReadyH.nil
    refine' AllReadyH.cons (o := ?o131) ?ho131 ?h131 ?hs131
    case ho131 => exact rfl
    case h131 =>
      intro K hK
      go_simp
      refine hK.out _ _ ?_ (fun hHeld => ?_)
      · (try dsimp only); go_keep
      clear hK K
      try simp only [Act.put, List.setIfInBounds_toArray, List.set_cons_zero, List.set_cons_succ]
      refine wpAnyH_ready (rs := [5, 15]) (by kernel_rfl) (by simp) ?_
      refine' AllReadyH.cons (o := ?o132) ?ho132 ?h132 ?hs132
      case ho132 => exact rfl
      case h132 =>
        intro K hK
        go_simp
        refine hK.out _ _ ?_ (fun hHeld => ?_)
        · (try dsimp only); go_keep
        clear hK K
        try simp only [Act.put, List.setIfInBounds_toArray, List.set_cons_zero, List.set_cons_succ]
        refine wpAnyH_ready (rs := [13, 15]) (by kernel_rfl) (by simp) ?_
        refine' AllReadyH.cons (o := ?o133) ?ho133 ?h133 ?hs133
        case ho133 => exact rfl
        case h133 =>
          intro K hK
          refine step_append_ints rfl _ _ rfl w1.heap.size (.slice (some ⟨w1.heap.size, 0, none⟩) 0 0) [] rfl NE.out a l.length c l rfl (HI.out.below BE.out) (by simp; omega) (by simp <;> omega) l.length (by simp) ?_
          intro g cap w2 hn hk hb
          have hb2 := BE.out.trans (hk.below _ (by simp <;> omega) (by simp [Value.ownBlock]))
          have HN2 : Hid (Nums w2 w1.heap.size (.slice g l.length cap) l) := hn
          have HB2 := Lib.hid hb2
          have hc2 := (hb2.cell (p := ⟨r, 0, none⟩) HR0.out).trans HC.out
          clear hn hk hb hb2
          refine hK.out _ _ ?_ (fun hHeld => ?_)
          · (try dsimp only); exact hc2
          clear hK K
          try simp only [Act.put, List.setIfInBounds_toArray, List.set_cons_zero, List.set_cons_succ]
          refine wpAnyH_ready (rs := [15]) (by kernel_rfl) (by simp) ?_
          refine' AllReadyH.cons (o := ?o134) ?ho134 ?h134 ?hs134
          case ho134 => exact rfl
          case h134 =>
            intro K hK
            go_simp
            refine hK.out _ _ ?_ (fun hHeld => ?_)
            · (try dsimp only); go_keep
            clear hK K
            try simp only [Act.put, List.setIfInBounds_toArray, List.set_cons_zero, List.set_cons_succ]
            refine wpAnyH_ready (rs := [16]) (by kernel_rfl) (by simp) ?_
            refine' AllReadyH.cons (o := ?o135) ?ho135 ?h135 ?hs135
            case ho135 => exact rfl
            case h135 =>
              intro K hK
              refine step_append_ints rfl _ _ rfl w1.heap.size (.slice g l.length cap) l rfl (World.ownsRow.alloc HN2.out _) (some ⟨w2.heap.size, 0, none⟩) 1 1 [x] rfl (ints_one (heap_alloc_new w2 _)) (by omega) (by have := HB2.out.size; simp; try omega) (l.length + 1) rfl ?_
              intro g3 cap3 w3 hn hk hb
              have hb3 := (HB2.out.alloc HB2.out.size _).trans (hk.below w1.heap.size (by have := HB2.out.size; simp; try omega) fun b hb => (HN2.out.lt (by simpa using hb)).1)
              have HN3 := Lib.hid hn
              have HB3 := Lib.hid hb3
              have hc3 := (hb3.cell (p := ⟨r, 0, none⟩) HR0.out).trans HC.out
              have HR3 := Lib.hid (H1.out.past hb3)
              have hf3 := HR3.out.frozen ρ
              obtain ⟨a3, c3, ht3, -⟩ := HR3.out.at HL.out
              clear hn hk hb hb3
              refine hK.out _ _ ?_ (fun hHeld => ?_)
              · (try dsimp only); exact hc3
              clear hK K
              try simp only [Act.put, List.setIfInBounds_toArray, List.set_cons_zero, List.set_cons_succ]
              refine' wpAnyH_take (i := 17) (oi := ?oi136) (v := ?v136) ?hi136 ?hs136 ?hf136 ?hr136 ?hQ136 ?hy136 ?hS136 ?rest136
              case hi136 => exact rfl
              case hs136 => kernel_rfl
              case hf136 => kernel_rfl
              case hr136 => kernel_rfl
              case hQ136 => exact fun _ _ _ h => h
              case hS136 => assumption
              case hy136 =>
                refine Or.inl ⟨by rfl, ?_⟩
                intro w hSw
                try dsimp only at hSw
                go_simp
                try with_reducible rfl
              try simp only [Act.put, List.setIfInBounds_toArray, List.set_cons_zero, List.set_cons_succ]
              refine wpAnyH_ready (rs := [18]) (by kernel_rfl) (by simp) ?_
              refine' AllReadyH.cons (o := ?o137) ?ho137 ?h137 ?hs137
              case ho137 => exact rfl
              case h137 =>
                intro K hK
                go_simp
                refine hK.out _ _ ?_ (fun hHeld => ?_)
                · (try dsimp only); exact (World.cell?_of_block (a := ⟨r, 0, none⟩) (heap_setCell_other _ _ _ _ hne)).trans hc3
                clear hK K
                try simp only [Act.put, List.setIfInBounds_toArray, List.set_cons_zero, List.set_cons_succ]
                refine wpAnyH_done (by kernel_rfl) ?_ _
                go_wp2
                go_ret
                exact RefNow.stored H1.out H2.out H3.out HB3.out hρ2 HN3.out (put_max HS.out HF.out HR.out.max HL.out (by simp)) HPUSH.out
              exact AllReadyH.nil
            exact AllReadyH.nil
          exact AllReadyH.nil
        refine' AllReadyH.cons (o := ?o138) ?ho138 ?h138 ?hs138
        case ho138 => exact rfl
        case h138 =>
          intro K hK
          go_simp
          refine hK.out _ _ ?_ (fun hHeld => ?_)
          · (try dsimp only); go_keep
          clear hK K
          try simp only [Act.put, List.setIfInBounds_toArray, List.set_cons_zero, List.set_cons_succ]
          refine wpAnyH_ready (rs := [13]) (by kernel_rfl) (by simp) ?_
          refine' AllReadyH.cons (o := ?o139) ?ho139 ?h139 ?hs139
          case ho139 => exact rfl
          case h139 =>
            intro K hK
            refine step_append_ints rfl _ _ rfl w1.heap.size (.slice (some ⟨w1.heap.size, 0, none⟩) 0 0) [] rfl NEX.out a l.length c l rfl (HI.out.below BEX.out) (by simp; omega) (by simp <;> omega) l.length (by simp) ?_
            intro g cap w2 hn hk hb
            have hb2 := BEX.out.trans (hk.below _ (by simp <;> omega) (by simp [Value.ownBlock]))
            have HN2 : Hid (Nums w2 w1.heap.size (.slice g l.length cap) l) := hn
            have HB2 := Lib.hid hb2
            have hc2 := (hb2.cell (p := ⟨r, 0, none⟩) HR0.out).trans HC.out
            have IX := Lib.hid (ints_one ((hk.block (w1.heap.size + 1) (by simp <;> omega) (by simp [Value.ownBlock])).trans XEX.out))
            clear hn hk hb hb2
            refine hK.out _ _ ?_ (fun hHeld => ?_)
            · (try dsimp only); exact hc2
            clear hK K
            try simp only [Act.put, List.setIfInBounds_toArray, List.set_cons_zero, List.set_cons_succ]
            refine wpAnyH_ready (rs := [16]) (by kernel_rfl) (by simp) ?_
            refine' AllReadyH.cons (o := ?o140) ?ho140 ?h140 ?hs140
            case ho140 => exact rfl
            case h140 =>
              intro K hK
              refine step_append_ints rfl _ _ rfl w1.heap.size (.slice g l.length cap) l rfl HN2.out (some ⟨w1.heap.size + 1, 0, none⟩) 1 1 [x] rfl IX.out (by omega) (by have := HB2.out.size; simp; try omega) (l.length + 1) rfl ?_
              intro g3 cap3 w3 hn hk hb
              have hb3 := HB2.out.trans (hk.below w1.heap.size (by have := HB2.out.size; simp; try omega) fun b hb => (HN2.out.lt (by simpa using hb)).1)
              have HN3 := Lib.hid hn
              have HB3 := Lib.hid hb3
              have hc3 := (hb3.cell (p := ⟨r, 0, none⟩) HR0.out).trans HC.out
              have HR3 := Lib.hid (H1.out.past hb3)
              have hf3 := HR3.out.frozen ρ
              obtain ⟨a3, c3, ht3, -⟩ := HR3.out.at HL.out
              clear hn hk hb hb3
              refine hK.out _ _ ?_ (fun hHeld => ?_)
              · (try dsimp only); exact hc3
              clear hK K
              try simp only [Act.put, List.setIfInBounds_toArray, List.set_cons_zero, List.set_cons_succ]
              refine' wpAnyH_take (i := 17) (oi := ?oi141) (v := ?v141) ?hi141 ?hs141 ?hf141 ?hr141 ?hQ141 ?hy141 ?hS141 ?rest141
              case hi141 => exact rfl
              case hs141 => kernel_rfl
              case hf141 => kernel_rfl
              case hr141 => kernel_rfl
              case hQ141 => exact fun _ _ _ h => h
              case hS141 => assumption
              case hy141 =>
                refine Or.inl ⟨by rfl, ?_⟩
                intro w hSw
                try dsimp only at hSw
                go_simp
                try with_reducible rfl
              try simp only [Act.put, List.setIfInBounds_toArray, List.set_cons_zero, List.set_cons_succ]
              refine wpAnyH_ready (rs := [18]) (by kernel_rfl) (by simp) ?_
              refine' AllReadyH.cons (o := ?o142) ?ho142 ?h142 ?hs142
              case ho142 => exact rfl
              case h142 =>
                intro K hK
                go_simp
                refine hK.out _ _ ?_ (fun hHeld => ?_)
                · (try dsimp only); exact (World.cell?_of_block (a := ⟨r, 0, none⟩) (heap_setCell_other _ _ _ _ hne)).trans hc3
                clear hK K
                try simp only [Act.put, List.setIfInBounds_toArray, List.set_cons_zero, List.set_cons_succ]
                refine wpAnyH_done (by kernel_rfl) ?_ _
                go_wp2
                go_ret
                exact RefNow.stored H1.out H2.out H3.out HB3.out hρ2 HN3.out (put_max HS.out HF.out HR.out.max HL.out (by simp)) HPUSH.out
              exact AllReadyH.nil
            exact AllReadyH.nil
          exact AllReadyH.nil
        exact AllReadyH.nil
      refine' AllReadyH.cons (o := ?o143) ?ho143 ?h143 ?hs143
      case ho143 => exact rfl
      case h143 =>
        intro K hK
        go_simp
        refine hK.out _ _ ?_ (fun hHeld => ?_)
        · (try dsimp only); go_keep
        clear hK K
        try simp only [Act.put, List.setIfInBounds_toArray, List.set_cons_zero, List.set_cons_succ]
        refine wpAnyH_ready (rs := [5]) (by kernel_rfl) (by simp) ?_
        refine' AllReadyH.cons (o := ?o144) ?ho144 ?h144 ?hs144
        case ho144 => exact rfl
        case h144 =>
          intro K hK
          go_simp
          refine hK.out _ _ ?_ (fun hHeld => ?_)
          · (try dsimp only); go_keep
          clear hK K
          try simp only [Act.put, List.setIfInBounds_toArray, List.set_cons_zero, List.set_cons_succ]
          refine wpAnyH_ready (rs := [13]) (by kernel_rfl) (by simp) ?_
          refine' AllReadyH.cons (o := ?o145) ?ho145 ?h145 ?hs145
          case ho145 => exact rfl
          case h145 =>
            intro K hK
            refine step_append_ints rfl _ _ rfl w1.heap.size (.slice (some ⟨w1.heap.size + 1, 0, none⟩) 0 0) [] rfl NXE.out a l.length c l rfl (HI.out.below BXE.out) (by simp; omega) (by simp <;> omega) l.length (by simp) ?_
            intro g cap w2 hn hk hb
            have hb2 := BXE.out.trans (hk.below _ (by simp <;> omega) (by simp [Value.ownBlock]))
            have HN2 : Hid (Nums w2 w1.heap.size (.slice g l.length cap) l) := hn
            have HB2 := Lib.hid hb2
            have hc2 := (hb2.cell (p := ⟨r, 0, none⟩) HR0.out).trans HC.out
            have IX := Lib.hid (ints_one ((hk.block (w1.heap.size) (by simp <;> omega) (by simp [Value.ownBlock])).trans XXE.out))
            clear hn hk hb hb2
            refine hK.out _ _ ?_ (fun hHeld => ?_)
            · (try dsimp only); exact hc2
            clear hK K
            try simp only [Act.put, List.setIfInBounds_toArray, List.set_cons_zero, List.set_cons_succ]
            refine wpAnyH_ready (rs := [16]) (by kernel_rfl) (by simp) ?_
            refine' AllReadyH.cons (o := ?o146) ?ho146 ?h146 ?hs146
            case ho146 => exact rfl
            case h146 =>
              intro K hK
              refine step_append_ints rfl _ _ rfl w1.heap.size (.slice g l.length cap) l rfl HN2.out (some ⟨w1.heap.size, 0, none⟩) 1 1 [x] rfl IX.out (by omega) (by have := HB2.out.size; simp; try omega) (l.length + 1) rfl ?_
              intro g3 cap3 w3 hn hk hb
              have hb3 := HB2.out.trans (hk.below w1.heap.size (by have := HB2.out.size; simp; try omega) fun b hb => (HN2.out.lt (by simpa using hb)).1)
              have HN3 := Lib.hid hn
              have HB3 := Lib.hid hb3
              have hc3 := (hb3.cell (p := ⟨r, 0, none⟩) HR0.out).trans HC.out
              have HR3 := Lib.hid (H1.out.past hb3)
              have hf3 := HR3.out.frozen ρ
              obtain ⟨a3, c3, ht3, -⟩ := HR3.out.at HL.out
              clear hn hk hb hb3
              refine hK.out _ _ ?_ (fun hHeld => ?_)
              · (try dsimp only); exact hc3
              clear hK K
              try simp only [Act.put, List.setIfInBounds_toArray, List.set_cons_zero, List.set_cons_succ]
              refine' wpAnyH_take (i := 17) (oi := ?oi147) (v := ?v147) ?hi147 ?hs147 ?hf147 ?hr147 ?hQ147 ?hy147 ?hS147 ?rest147
              case hi147 => exact rfl
              case hs147 => kernel_rfl
              case hf147 => kernel_rfl
              case hr147 => kernel_rfl
              case hQ147 => exact fun _ _ _ h => h
              case hS147 => assumption
              case hy147 =>
                refine Or.inl ⟨by rfl, ?_⟩
                intro w hSw
                try dsimp only at hSw
                go_simp
                try with_reducible rfl
              try simp only [Act.put, List.setIfInBounds_toArray, List.set_cons_zero, List.set_cons_succ]
              refine wpAnyH_ready (rs := [18]) (by kernel_rfl) (by simp) ?_
              refine' AllReadyH.cons (o := ?o148) ?ho148 ?h148 ?hs148
              case ho148 => exact rfl
              case h148 =>
                intro K hK
                go_simp
                refine hK.out _ _ ?_ (fun hHeld => ?_)
                · (try dsimp only); exact (World.cell?_of_block (a := ⟨r, 0, none⟩) (heap_setCell_other _ _ _ _ hne)).trans hc3
                clear hK K
                try simp only [Act.put, List.setIfInBounds_toArray, List.set_cons_zero, List.set_cons_succ]
                refine wpAnyH_done (by kernel_rfl) ?_ _
                go_wp2
                go_ret
                exact RefNow.stored H1.out H2.out H3.out HB3.out hρ2 HN3.out (put_max HS.out HF.out HR.out.max HL.out (by simp)) HPUSH.out
              exact AllReadyH.nil
            exact AllReadyH.nil
          exact AllReadyH.nil
        exact AllReadyH.nil
      exact AllReadyH.nil
    refine' AllReadyH.cons (o := ?o149) ?ho149 ?h149 ?hs149
    case ho149 => exact rfl
    case h149 =>
      intro K hK
      go_simp
      refine hK.out _ _ ?_ (fun hHeld => ?_)
      · (try dsimp only); go_keep
      clear hK K
      try simp only [Act.put, List.setIfInBounds_toArray, List.set_cons_zero, List.set_cons_succ]
      refine wpAnyH_ready (rs := [5, 12]) (by kernel_rfl) (by simp) ?_
      refine' AllReadyH.cons (o := ?o150) ?ho150 ?h150 ?hs150
      case ho150 => exact rfl
      case h150 =>
        intro K hK
        go_simp
        refine hK.out _ _ ?_ (fun hHeld => ?_)
        · (try dsimp only); go_keep
        clear hK K
        try simp only [Act.put, List.setIfInBounds_toArray, List.set_cons_zero, List.set_cons_succ]
        refine wpAnyH_ready (rs := [12]) (by kernel_rfl) (by simp) ?_
        refine' AllReadyH.cons (o := ?o151) ?ho151 ?h151 ?hs151
        case ho151 => exact rfl
        case h151 =>
          intro K hK
          go_simp
          refine hK.out _ _ ?_ (fun hHeld => ?_)
          · (try dsimp only); go_keep
          clear hK K
          try simp only [Act.put, List.setIfInBounds_toArray, List.set_cons_zero, List.set_cons_succ]
          refine wpAnyH_ready (rs := [13]) (by kernel_rfl) (by simp) ?_
          refine' AllReadyH.cons (o := ?o152) ?ho152 ?h152 ?hs152
          case ho152 => exact rfl
          case h152 =>
            intro K hK
            refine step_append_ints rfl _ _ rfl w1.heap.size (.slice (some ⟨w1.heap.size + 1, 0, none⟩) 0 0) [] rfl NXE.out a l.length c l rfl (HI.out.below BXE.out) (by simp; omega) (by simp <;> omega) l.length (by simp) ?_
            intro g cap w2 hn hk hb
            have hb2 := BXE.out.trans (hk.below _ (by simp <;> omega) (by simp [Value.ownBlock]))
            have HN2 : Hid (Nums w2 w1.heap.size (.slice g l.length cap) l) := hn
            have HB2 := Lib.hid hb2
            have hc2 := (hb2.cell (p := ⟨r, 0, none⟩) HR0.out).trans HC.out
            have IX := Lib.hid (ints_one ((hk.block (w1.heap.size) (by simp <;> omega) (by simp [Value.ownBlock])).trans XXE.out))
            clear hn hk hb hb2
            refine hK.out _ _ ?_ (fun hHeld => ?_)
            · (try dsimp only); exact hc2
            clear hK K
            try simp only [Act.put, List.setIfInBounds_toArray, List.set_cons_zero, List.set_cons_succ]
            refine wpAnyH_ready (rs := [16]) (by kernel_rfl) (by simp) ?_
            refine' AllReadyH.cons (o := ?o153) ?ho153 ?h153 ?hs153
            case ho153 => exact rfl
            case h153 =>
              intro K hK
              refine step_append_ints rfl _ _ rfl w1.heap.size (.slice g l.length cap) l rfl HN2.out (some ⟨w1.heap.size, 0, none⟩) 1 1 [x] rfl IX.out (by omega) (by have := HB2.out.size; simp; try omega) (l.length + 1) rfl ?_
              intro g3 cap3 w3 hn hk hb
              have hb3 := HB2.out.trans (hk.below w1.heap.size (by have := HB2.out.size; simp; try omega) fun b hb => (HN2.out.lt (by simpa using hb)).1)
              have HN3 := Lib.hid hn
              have HB3 := Lib.hid hb3
              have hc3 := (hb3.cell (p := ⟨r, 0, none⟩) HR0.out).trans HC.out
              have HR3 := Lib.hid (H1.out.past hb3)
              have hf3 := HR3.out.frozen ρ
              obtain ⟨a3, c3, ht3, -⟩ := HR3.out.at HL.out
              clear hn hk hb hb3
              refine hK.out _ _ ?_ (fun hHeld => ?_)
              · (try dsimp only); exact hc3
              clear hK K
              try simp only [Act.put, List.setIfInBounds_toArray, List.set_cons_zero, List.set_cons_succ]
              refine' wpAnyH_take (i := 17) (oi := ?oi154) (v := ?v154) ?hi154 ?hs154 ?hf154 ?hr154 ?hQ154 ?hy154 ?hS154 ?rest154
              case hi154 => exact rfl
              case hs154 => kernel_rfl
              case hf154 => kernel_rfl
              case hr154 => kernel_rfl
              case hQ154 => exact fun _ _ _ h => h
              case hS154 => assumption
              case hy154 =>
                refine Or.inl ⟨by rfl, ?_⟩
                intro w hSw
                try dsimp only at hSw
                go_simp
                try with_reducible rfl
              try simp only [Act.put, List.setIfInBounds_toArray, List.set_cons_zero, List.set_cons_succ]
              refine wpAnyH_ready (rs := [18]) (by kernel_rfl) (by simp) ?_
              refine' AllReadyH.cons (o := ?o155) ?ho155 ?h155 ?hs155
              case ho155 => exact rfl
              case h155 =>
                intro K hK
                go_simp
                refine hK.out _ _ ?_ (fun hHeld => ?_)
                · (try dsimp only); exact (World.cell?_of_block (a := ⟨r, 0, none⟩) (heap_setCell_other _ _ _ _ hne)).trans hc3
                clear hK K
                try simp only [Act.put, List.setIfInBounds_toArray, List.set_cons_zero, List.set_cons_succ]
                refine wpAnyH_done (by kernel_rfl) ?_ _
                go_wp2
                go_ret
                exact RefNow.stored H1.out H2.out H3.out HB3.out hρ2 HN3.out (put_max HS.out HF.out HR.out.max HL.out (by simp)) HPUSH.out
              exact AllReadyH.nil
            exact AllReadyH.nil
          exact AllReadyH.nil
        exact AllReadyH.nil
      refine' AllReadyH.cons (o := ?o156) ?ho156 ?h156 ?hs156
      case ho156 => exact rfl
      case h156 =>
        intro K hK
        go_simp
        refine hK.out _ _ ?_ (fun hHeld => ?_)
        · (try dsimp only); go_keep
        clear hK K
        try simp only [Act.put, List.setIfInBounds_toArray, List.set_cons_zero, List.set_cons_succ]
        refine wpAnyH_ready (rs := [5]) (by kernel_rfl) (by simp) ?_
        refine' AllReadyH.cons (o := ?o157) ?ho157 ?h157 ?hs157
        case ho157 => exact rfl
        case h157 =>
          intro K hK
          go_simp
          refine hK.out _ _ ?_ (fun hHeld => ?_)
          · (try dsimp only); go_keep
          clear hK K
          try simp only [Act.put, List.setIfInBounds_toArray, List.set_cons_zero, List.set_cons_succ]
          refine wpAnyH_ready (rs := [13]) (by kernel_rfl) (by simp) ?_
          refine' AllReadyH.cons (o := ?o158) ?ho158 ?h158 ?hs158
          case ho158 => exact rfl
          case h158 =>
            intro K hK
            refine step_append_ints rfl _ _ rfl w1.heap.size (.slice (some ⟨w1.heap.size + 1, 0, none⟩) 0 0) [] rfl NXE.out a l.length c l rfl (HI.out.below BXE.out) (by simp; omega) (by simp <;> omega) l.length (by simp) ?_
            intro g cap w2 hn hk hb
            have hb2 := BXE.out.trans (hk.below _ (by simp <;> omega) (by simp [Value.ownBlock]))
            have HN2 : Hid (Nums w2 w1.heap.size (.slice g l.length cap) l) := hn
            have HB2 := Lib.hid hb2
            have hc2 := (hb2.cell (p := ⟨r, 0, none⟩) HR0.out).trans HC.out
            have IX := Lib.hid (ints_one ((hk.block (w1.heap.size) (by simp <;> omega) (by simp [Value.ownBlock])).trans XXE.out))
            clear hn hk hb hb2
            refine hK.out _ _ ?_ (fun hHeld => ?_)
            · (try dsimp only); exact hc2
            clear hK K
            try simp only [Act.put, List.setIfInBounds_toArray, List.set_cons_zero, List.set_cons_succ]
            refine wpAnyH_ready (rs := [16]) (by kernel_rfl) (by simp) ?_
            refine' AllReadyH.cons (o := ?o159) ?ho159 ?h159 ?hs159
            case ho159 => exact rfl
            case h159 =>
              intro K hK
              refine step_append_ints rfl _ _ rfl w1.heap.size (.slice g l.length cap) l rfl HN2.out (some ⟨w1.heap.size, 0, none⟩) 1 1 [x] rfl IX.out (by omega) (by have := HB2.out.size; simp; try omega) (l.length + 1) rfl ?_
              intro g3 cap3 w3 hn hk hb
              have hb3 := HB2.out.trans (hk.below w1.heap.size (by have := HB2.out.size; simp; try omega) fun b hb => (HN2.out.lt (by simpa using hb)).1)
              have HN3 := Lib.hid hn
              have HB3 := Lib.hid hb3
              have hc3 := (hb3.cell (p := ⟨r, 0, none⟩) HR0.out).trans HC.out
              have HR3 := Lib.hid (H1.out.past hb3)
              have hf3 := HR3.out.frozen ρ
              obtain ⟨a3, c3, ht3, -⟩ := HR3.out.at HL.out
              clear hn hk hb hb3
              refine hK.out _ _ ?_ (fun hHeld => ?_)
              · (try dsimp only); exact hc3
              clear hK K
              try simp only [Act.put, List.setIfInBounds_toArray, List.set_cons_zero, List.set_cons_succ]
              refine' wpAnyH_take (i := 17) (oi := ?oi160) (v := ?v160) ?hi160 ?hs160 ?hf160 ?hr160 ?hQ160 ?hy160 ?hS160 ?rest160
              case hi160 => exact rfl
              case hs160 => kernel_rfl
              case hf160 => kernel_rfl
              case hr160 => kernel_rfl
              case hQ160 => exact fun _ _ _ h => h
              case hS160 => assumption
              case hy160 =>
                refine Or.inl ⟨by rfl, ?_⟩
                intro w hSw
                try dsimp only at hSw
                go_simp
                try with_reducible rfl
              try simp only [Act.put, List.setIfInBounds_toArray, List.set_cons_zero, List.set_cons_succ]
              refine wpAnyH_ready (rs := [18]) (by kernel_rfl) (by simp) ?_
              refine' AllReadyH.cons (o := ?o161) ?ho161 ?h161 ?hs161
              case ho161 => exact rfl
              case h161 =>
                intro K hK
                go_simp
                refine hK.out _ _ ?_ (fun hHeld => ?_)
                · (try dsimp only); exact (World.cell?_of_block (a := ⟨r, 0, none⟩) (heap_setCell_other _ _ _ _ hne)).trans hc3
                clear hK K
                try simp only [Act.put, List.setIfInBounds_toArray, List.set_cons_zero, List.set_cons_succ]
                refine wpAnyH_done (by kernel_rfl) ?_ _
                go_wp2
                go_ret
                exact RefNow.stored H1.out H2.out H3.out HB3.out hρ2 HN3.out (put_max HS.out HF.out HR.out.max HL.out (by simp)) HPUSH.out
              exact AllReadyH.nil
            exact AllReadyH.nil
          exact AllReadyH.nil
        exact AllReadyH.nil
      exact AllReadyH.nil
    exact AllReadyH.nil
  · have HM := Lib.hid (ref_may HR.out row x)
    have HPUSH := Lib.hid (show pushS row x S = S by unfold pushS; rw [if_neg hf])
    rw [decide_eq_false hf] at HM ⊢
    clear hf
    go_enter Try.func14, Try.ntmps14
    go_wp2_with fail
    refine (HM.out.mono ?_)
    rintro e w1 ⟨rfl, rfl⟩
    go_wp2
    go_ret
    rw [HPUSH.out]
    exact RefNow.same HR.out _
end
end Go.Proofs.Ytnjpdcoahojgbaa.RInt
