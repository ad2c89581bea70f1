/- Package tlb's drop: what is let go of a table. -/
import Derived.Test.YtmddflhacamnaaaTDelF
namespace Go.Proofs.Ytmddflhacamnaaa
open Go.ChangeShapes Go.WideShapes Go.ChangeAt Go.RowKit Go.Deep
set_option linter.unusedVariables false

section
variable {p M : Nat} {sz : Int} {v : Value} {b2 b3 : Nat} {fv : Value} {xb : Option (Nat × Obj)} {q : KeptV → Bool} {W W' : World} {xs ys : List KeptV}

theorem del_nil (s : Option Addr) (c : Nat) (fv : Value) (W : World) : Calls Try.prog 31 #[.slice s 0 c, fv] W fun e W' => e = .returned (.slice s 0 c) ∧ W' = W := by
  have HI := Lib.hid (idx_nil s c fv W)
  go_enter Try.func31, Try.ntmps31
  go_wp2_with fail
  refine HI.out.mono ?_
  rintro e W1 ⟨rfl, rfl⟩
  go_wp2_with fail
  go_ret
  exact ⟨rfl, rfl⟩

/-- What DeleteFunc leaves, whatever the row is. -/
def DelLeft (p M : Nat) (sz : Int) (v : Value) (b2 b3 : Nat) (fv : Value) (xb : Option (Nat × Obj)) (q : KeptV → Bool) (W : World) (xs : List KeptV) (s : Option Addr) (c : Nat) (W' : World) : Prop :=
  DS p M sz v b2 b3 fv xb W' (dropK q xs) ∧ W'.ownsRow 0 29 2 (.slice s (dropK q xs).length c) (dropK q xs).length ((dropK q xs).flatMap keyCells) ∧ (Value.slice s (dropK q xs).length c).ownBlock = v.ownBlock ∧ Turn (M :: v.ownBlock.toList) W W'

theorem del_any {s : Option Addr} {c : Nat} (hv : v = .slice s xs.length c) (HS : StepOk p M sz v b2 b3 fv xb q) (hk : Keys xs) (hr : W.ownsRow 0 29 2 v xs.length (xs.flatMap keyCells)) (h : DS p M sz v b2 b3 fv xb W xs) (hx : ∀ G o, v.ownBlock = some G → xb ≠ some (G, o)) :
    Calls Try.prog 31 #[.slice s xs.length c, .func (.func 32) #[] #[.pointer (some ⟨b3, 0, none⟩), .pointer (some ⟨b2, 0, none⟩)]] W fun e W' =>
      e = .returned (.slice s (dropK q xs).length c) ∧ DelLeft p M sz v b2 b3 fv xb q W xs s c W' := by
  rcases hr.2 with ⟨e, h0⟩ | ⟨G, cap, cur, e, _⟩
  · rw [e] at hv
    simp only [Value.slice.injEq] at hv
    obtain ⟨rfl, _, rfl⟩ := hv
    obtain rfl : xs = [] := List.length_eq_zero_iff.1 h0
    subst e
    refine (del_nil none 0 _ W).mono ?_
    rintro e W' ⟨rfl, rfl⟩
    exact ⟨rfl, by simpa [dropK] using h, World.ownsRow_nil _ _ _ _, rfl, Turn.refl _ _⟩
  · rw [e] at hv
    simp only [Value.slice.injEq] at hv
    obtain ⟨rfl, _, rfl⟩ := hv
    subst e
    refine (del_walk HS hk (KRow.of_own hr) h (fun o => hx G o rfl)).mono ?_
    rintro e W' ⟨rfl, h1, h2, h3⟩
    have hle : (dropK q xs).length ≤ cap := by
      obtain ⟨_, _, _, h4, _⟩ := h2
      exact Nat.le_trans (List.length_filter_le _ _) h4
    exact ⟨rfl, h1, h2.own hle, rfl, h3⟩

/-- .. behind the store into the table. -/
theorem DelLeft.put {s : Option Addr} {c : Nat} (h : DelLeft p M sz v b2 b3 fv xb q W xs s c W') (hv : v = .slice s xs.length c) (hT : TabT W p sz xs M v) :
    TabT (W'.setCell ⟨p, 2, none⟩ (.slice s (dropK q xs).length c)) p sz (dropK q xs) M (.slice s (dropK q xs).length c) ∧ (Value.slice s (dropK q xs).length c).ownBlock = v.ownBlock ∧ Turn (p :: M :: v.ownBlock.toList) W (W'.setCell ⟨p, 2, none⟩ (.slice s (dropK q xs).length c)) := by
  obtain ⟨h1, h2, h3, h4⟩ := h
  have hle : (dropK q xs).length ≤ xs.length := List.length_filter_le _ _
  have ho : ∀ b, b ≠ p → (W'.setCell ⟨p, 2, none⟩ (.slice s (dropK q xs).length c)).heap[b]? = W'.heap[b]? := fun b hb => heap_setCell_other W' _ b _ (by first | exact hb | exact hb.symm)
  have hsz := hT.len
  refine ⟨⟨heap_setCell_same W' p 2 _ _ _ h1.block, ?_, h1.map.kept (ho M (h1.map.ne_cells h1.block)), hT.keys.drop q, by omega, hT.sz0, hT.sz1⟩, h3, (h4.mono (by intro b hb; exact List.mem_cons_of_mem _ hb)).trans' (Turn.setCell _ _ _ _ _ (by simp))⟩
  refine ⟨h2.1, ?_⟩
  rcases h2.2 with h0 | ⟨g, cap, cur, e, k1, k2, k3⟩
  · exact .inl h0
  · refine .inr ⟨g, cap, cur, e, k1, (ho g fun e2 => ?_).trans k2, k3⟩
    have := h1.block.symm.trans (e2 ▸ k2)
    simp at this

/-- What drop leaves. -/
def DropLeft (p M : Nat) (sz : Int) (xb : Option (Nat × Obj)) (v : Value) (zs : List KeptV) (w w' : World) : Prop := ∃ v', TabT w' p sz zs M v' ∧ v'.ownBlock = v.ownBlock ∧ Turn (p :: M :: v.ownBlock.toList) w w'

set_option maxHeartbeats 1000000 in
theorem drop_walk {w : World} (g : Nat) (cap : Array Value) (h : TabT w p sz xs M v) (hxb : ∀ b o, xb = some (b, o) → w.heap[b]? = some o) (hx : ∀ G o, v.ownBlock = some G → xb ≠ some (G, o))
    (HS : ∀ v b2 b3, StepOk p M sz v b2 b3 (.func (.func g) #[] cap) xb q) :
    Calls Try.prog 24 #[.pointer (some ⟨p, 0, none⟩), .func (.func g) #[] cap] w fun e w' =>
      e = .returned (.int .i64 ((xs.length : Int) - ((dropK q xs).length : Int))) ∧ DropLeft p M sz xb v (dropK q xs) w w' := by
  have ga := World.grownBy_alloc w (.cells #[.pointer (some ⟨p, 0, none⟩)] 23 (0, 0)) none
  have gb := grown_trans ga (World.grownBy_alloc (w.alloc (.cells #[.pointer (some ⟨p, 0, none⟩)] 23 (0, 0))) (.cells #[.func (.func g) #[] cap] 37 (0, 0)) none)
  have hb2 := (World.grownBy_alloc (w.alloc (.cells #[.pointer (some ⟨p, 0, none⟩)] 23 (0, 0))) (.cells #[.func (.func g) #[] cap] 37 (0, 0)) none).block w.heap.size (by simp) (by simp) |>.trans (heap_alloc_new w _)
  have hb3 := heap_alloc_new (w.alloc (.cells #[.pointer (some ⟨p, 0, none⟩)] 23 (0, 0))) (.cells #[.func (.func g) #[] cap] 37 (0, 0))
  rw [World.size_alloc] at hb3
  have hT := h.grow gb
  have hD : DS p M sz v w.heap.size (w.heap.size + 1) (.func (.func g) #[] cap) xb ((w.alloc (.cells #[.pointer (some ⟨p, 0, none⟩)] 23 (0, 0))).alloc (.cells #[.func (.func g) #[] cap] 37 (0, 0))) xs :=
    ⟨hT.block, hT.map, hT.keys.ok, hb2, hb3, fun b o e => (gb.block b (Array.getElem?_eq_some_iff.1 (hxb b o e)).1 (by simp)).trans (hxb b o e)⟩
  generalize hwB : (w.alloc (.cells #[.pointer (some ⟨p, 0, none⟩)] 23 (0, 0))).alloc (.cells #[.func (.func g) #[] cap] 37 (0, 0)) = wB at *
  have hq := eql_ptr_nil
  obtain ⟨c0, c1, c2, c3⟩ := hD.at
  obtain ⟨s, c, hv⟩ := h.form
  have HV := Lib.hid hv
  rw [hv] at c3
  have gd := grown_drew1 wB
  have HDel := Lib.hid (del_any hv (HS v w.heap.size (w.heap.size + 1)) h.keys (hT.grow gd).row (hD.grow gd) hx)
  have hc0 := (hD.grow gd).at.1
  have HD := Lib.hid (hD.grow gd)
  have HT := Lib.hid (hT.grow gd)
  have HG := Lib.hid (grown_trans gb gd)
  have HNE := Lib.hid (show w.heap.size ≠ p from fun e => by have := h.plt; omega)
  have hle : (dropK q xs).length ≤ xs.length := List.length_filter_le _ _
  have hlen : xs.length ≤ 1024 := by have := h.len; have := h.sz1; omega
  have hmf : ∀ (fn : Fn) (first cap : Array Value) (w : World), (Instr.makeFunc fn first cap).run Try.prog w = .ok (.func fn first cap) w := fun _ _ _ _ => rfl
  clear ga gb hb2 hb3 hT hD HS h hv hxb hx gd
  go_enter Try.func24, Try.ntmps24
  go_wp2_with fail
  refine wp_region_held_drew (S := fun W' => W'.cell? ⟨w.heap.size, 0, none⟩ = some (.pointer (some ⟨p, 0, none⟩))) (by kernel_rfl) hc0 (fun hHeld => ?_)
  -- REGION
  refine' wpAnyH_take (i := 0) (oi := ?oi1) (v := ?v1) ?hi1 ?hs1 ?hf1 ?hr1 ?hQ1 ?hy1 ?hS1 ?rest1
  case hi1 => exact rfl
  case hs1 => kernel_rfl
  case hf1 => kernel_rfl
  case hr1 => kernel_rfl
  case hQ1 => exact fun _ _ _ h => h
  case hS1 => assumption
  case hy1 =>
    refine Or.inl ⟨by rfl, ?_⟩
    intro w hSw
    try dsimp only at hSw
    go_simp
    try with_reducible rfl
  try simp only [Act.put, List.setIfInBounds_toArray, List.set_cons_zero, List.set_cons_succ]
  refine' wpAnyH_take (i := 1) (oi := ?oi2) (v := ?v2) ?hi2 ?hs2 ?hf2 ?hr2 ?hQ2 ?hy2 ?hS2 ?rest2
  case hi2 => exact rfl
  case hs2 => kernel_rfl
  case hf2 => kernel_rfl
  case hr2 => kernel_rfl
  case hQ2 => exact fun _ _ _ h => h
  case hS2 => assumption
  case hy2 =>
    refine Or.inl ⟨by rfl, ?_⟩
    intro w hSw
    try dsimp only at hSw
    go_simp
    try with_reducible rfl
  try simp only [Act.put, List.setIfInBounds_toArray, List.set_cons_zero, List.set_cons_succ]
  refine' wpAnyH_take (i := 2) (oi := ?oi3) (v := ?v3) ?hi3 ?hs3 ?hf3 ?hr3 ?hQ3 ?hy3 ?hS3 ?rest3
  case hi3 => exact rfl
  case hs3 => kernel_rfl
  case hf3 => kernel_rfl
  case hr3 => kernel_rfl
  case hQ3 => exact fun _ _ _ h => h
  case hS3 => assumption
  case hy3 =>
    refine Or.inl ⟨by rfl, ?_⟩
    intro w hSw
    try dsimp only at hSw
    go_simp
    try with_reducible rfl
  try simp only [Act.put, List.setIfInBounds_toArray, List.set_cons_zero, List.set_cons_succ]
  refine' wpAnyH_take (i := 3) (oi := ?oi4) (v := ?v4) ?hi4 ?hs4 ?hf4 ?hr4 ?hQ4 ?hy4 ?hS4 ?rest4
  case hi4 => exact rfl
  case hs4 => kernel_rfl
  case hf4 => kernel_rfl
  case hr4 => kernel_rfl
  case hQ4 => exact fun _ _ _ h => h
  case hS4 => assumption
  case hy4 =>
    refine Or.inl ⟨by rfl, ?_⟩
    intro w hSw
    try dsimp only at hSw
    go_simp
    try with_reducible rfl
  try simp only [Act.put, List.setIfInBounds_toArray, List.set_cons_zero, List.set_cons_succ]
  refine wpAnyH_ready (rs := [4, 5]) (by kernel_rfl) (by simp) ?_
  refine' AllReadyH.cons (o := ?o5) ?ho5 ?h5 ?hs5
  case ho5 => exact rfl
  case h5 =>
    intro K hK
    go_simp
    refine hK.out _ _ ?_ (fun hHeld => ?_)
    · (try dsimp only); exact hc0
    clear hK K
    try simp only [Act.put, List.setIfInBounds_toArray, List.set_cons_zero, List.set_cons_succ]
    refine wpAnyH_ready (rs := [5]) (by kernel_rfl) (by simp) ?_
    refine' AllReadyH.cons (o := ?o6) ?ho6 ?h6 ?hs6
    case ho6 => exact rfl
    case h6 =>
      intro K hK
      go_simp
      refine hK.out _ _ ?_ (fun hHeld => ?_)
      · (try dsimp only); exact hc0
      clear hK K
      try simp only [Act.put, List.setIfInBounds_toArray, List.set_cons_zero, List.set_cons_succ]
      refine wpAnyH_ready (rs := [6]) (by kernel_rfl) (by simp) ?_
      refine' AllReadyH.cons (o := ?o7) ?ho7 ?h7 ?hs7
      case ho7 => exact rfl
      case h7 =>
        intro K hK
        go_simp
        go_wp2_with (go_at_call 31; refine HDel.out.mono ?_; rintro e w2 ⟨rfl, h2⟩; have HP := Lib.hid (h2.put HV.out HT.out); have hc2 := h2.1.at.1; have cp2 := h2.1.at.2.2.2; have fp2 := frozen_of_row w2 p 2 _ _ h2.1.block; clear h2)
        refine hK.out _ _ ?_ (fun hHeld => ?_)
        · (try dsimp only); exact hc2
        clear hK K
        try simp only [Act.put, List.setIfInBounds_toArray, List.set_cons_zero, List.set_cons_succ]
        refine' wpAnyH_take (i := 7) (oi := ?oi8) (v := ?v8) ?hi8 ?hs8 ?hf8 ?hr8 ?hQ8 ?hy8 ?hS8 ?rest8
        case hi8 => exact rfl
        case hs8 => kernel_rfl
        case hf8 => kernel_rfl
        case hr8 => kernel_rfl
        case hQ8 => exact fun _ _ _ h => h
        case hS8 => assumption
        case hy8 =>
          refine Or.inl ⟨by rfl, ?_⟩
          intro w hSw
          try dsimp only at hSw
          go_simp
          try with_reducible rfl
        try simp only [Act.put, List.setIfInBounds_toArray, List.set_cons_zero, List.set_cons_succ]
        refine' wpAnyH_take (i := 8) (oi := ?oi9) (v := ?v9) ?hi9 ?hs9 ?hf9 ?hr9 ?hQ9 ?hy9 ?hS9 ?rest9
        case hi9 => exact rfl
        case hs9 => kernel_rfl
        case hf9 => kernel_rfl
        case hr9 => kernel_rfl
        case hQ9 => exact fun _ _ _ h => h
        case hS9 => assumption
        case hy9 =>
          refine Or.inl ⟨by rfl, ?_⟩
          intro w hSw
          try dsimp only at hSw
          go_simp
          try with_reducible rfl
        try simp only [Act.put, List.setIfInBounds_toArray, List.set_cons_zero, List.set_cons_succ]
        refine wpAnyH_ready (rs := [9]) (by kernel_rfl) (by simp) ?_
        refine' AllReadyH.cons (o := ?o10) ?ho10 ?h10 ?hs10
        case ho10 => exact rfl
        case h10 =>
          intro K hK
          go_simp
          refine hK.out _ _ ?_ (fun hHeld => ?_)
          · (try dsimp only); exact (World.cell?_of_block (a := ⟨w.heap.size, 0, none⟩) (heap_setCell_other _ _ _ _ (by first | exact HNE.out | exact HNE.out.symm))).trans hc2
          clear hK K
          try simp only [Act.put, List.setIfInBounds_toArray, List.set_cons_zero, List.set_cons_succ]
          refine wpAnyH_done (by kernel_rfl) ?_ _
          go_wp2_with fail
          go_ret
          exact ⟨rfl, _, HP.out.1, HP.out.2.1, (Turn.grown HG.out).trans' HP.out.2.2⟩
        exact AllReadyH.nil
      exact AllReadyH.nil
    exact AllReadyH.nil
  refine' AllReadyH.cons (o := ?o11) ?ho11 ?h11 ?hs11
  case ho11 => exact rfl
  case h11 =>
    intro K hK
    go_simp
    refine hK.out _ _ ?_ (fun hHeld => ?_)
    · (try dsimp only); exact hc0
    clear hK K
    try simp only [Act.put, List.setIfInBounds_toArray, List.set_cons_zero, List.set_cons_succ]
    refine wpAnyH_ready (rs := [4]) (by kernel_rfl) (by simp) ?_
    refine' AllReadyH.cons (o := ?o12) ?ho12 ?h12 ?hs12
    case ho12 => exact rfl
    case h12 =>
      intro K hK
      go_simp
      refine hK.out _ _ ?_ (fun hHeld => ?_)
      · (try dsimp only); exact hc0
      clear hK K
      try simp only [Act.put, List.setIfInBounds_toArray, List.set_cons_zero, List.set_cons_succ]
      refine wpAnyH_ready (rs := [6]) (by kernel_rfl) (by simp) ?_
      refine' AllReadyH.cons (o := ?o13) ?ho13 ?h13 ?hs13
      case ho13 => exact rfl
      case h13 =>
        intro K hK
        go_simp
        go_wp2_with (go_at_call 31; refine HDel.out.mono ?_; rintro e w2 ⟨rfl, h2⟩; have HP := Lib.hid (h2.put HV.out HT.out); have hc2 := h2.1.at.1; have cp2 := h2.1.at.2.2.2; have fp2 := frozen_of_row w2 p 2 _ _ h2.1.block; clear h2)
        refine hK.out _ _ ?_ (fun hHeld => ?_)
        · (try dsimp only); exact hc2
        clear hK K
        try simp only [Act.put, List.setIfInBounds_toArray, List.set_cons_zero, List.set_cons_succ]
        refine' wpAnyH_take (i := 7) (oi := ?oi14) (v := ?v14) ?hi14 ?hs14 ?hf14 ?hr14 ?hQ14 ?hy14 ?hS14 ?rest14
        case hi14 => exact rfl
        case hs14 => kernel_rfl
        case hf14 => kernel_rfl
        case hr14 => kernel_rfl
        case hQ14 => exact fun _ _ _ h => h
        case hS14 => assumption
        case hy14 =>
          refine Or.inl ⟨by rfl, ?_⟩
          intro w hSw
          try dsimp only at hSw
          go_simp
          try with_reducible rfl
        try simp only [Act.put, List.setIfInBounds_toArray, List.set_cons_zero, List.set_cons_succ]
        refine' wpAnyH_take (i := 8) (oi := ?oi15) (v := ?v15) ?hi15 ?hs15 ?hf15 ?hr15 ?hQ15 ?hy15 ?hS15 ?rest15
        case hi15 => exact rfl
        case hs15 => kernel_rfl
        case hf15 => kernel_rfl
        case hr15 => kernel_rfl
        case hQ15 => exact fun _ _ _ h => h
        case hS15 => assumption
        case hy15 =>
          refine Or.inl ⟨by rfl, ?_⟩
          intro w hSw
          try dsimp only at hSw
          go_simp
          try with_reducible rfl
        try simp only [Act.put, List.setIfInBounds_toArray, List.set_cons_zero, List.set_cons_succ]
        refine wpAnyH_ready (rs := [9]) (by kernel_rfl) (by simp) ?_
        refine' AllReadyH.cons (o := ?o16) ?ho16 ?h16 ?hs16
        case ho16 => exact rfl
        case h16 =>
          intro K hK
          go_simp
          refine hK.out _ _ ?_ (fun hHeld => ?_)
          · (try dsimp only); exact (World.cell?_of_block (a := ⟨w.heap.size, 0, none⟩) (heap_setCell_other _ _ _ _ (by first | exact HNE.out | exact HNE.out.symm))).trans hc2
          clear hK K
          try simp only [Act.put, List.setIfInBounds_toArray, List.set_cons_zero, List.set_cons_succ]
          refine wpAnyH_done (by kernel_rfl) ?_ _
          go_wp2_with fail
          go_ret
          exact ⟨rfl, _, HP.out.1, HP.out.2.1, (Turn.grown HG.out).trans' HP.out.2.2⟩
        exact AllReadyH.nil
      exact AllReadyH.nil
    exact AllReadyH.nil
  exact AllReadyH.nil
  -- END OF REGION
end
end Go.Proofs.Ytmddflhacamnaaa
