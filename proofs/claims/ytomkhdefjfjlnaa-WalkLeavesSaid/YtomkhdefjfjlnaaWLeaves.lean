/- The document's Leaves of layer 4: the row that it tells is the list of all leaves. -/
import Derived.Test.YtomkhdefjfjlnaaWTable
import Derived.Laws.AppendOwnNone
namespace Go.Proofs.Ytomkhdefjfjlnaa
open Go.ChangeShapes Go.WideShapes Go.ChangeAt Go.RowKit Go.Deep
set_option linter.unusedVariables false

/-- The world in Leaves' loops: the document's memory stands, a row of leaves has been made. -/
structure LeafW (w0 w wr : World) (r f n : Nat) (R : List Nat) (L : List UInt8) (v : Value) (xs : List LeafV) (bd : Nat) : Prop where
  grown : w.grownBy wr none
  rs : RS w0 wr r f n R L
  own : LeafsOwn wr w.heap.size v xs
  len : xs.length ≤ bd
  rlt : r < w.heap.size
  flt : f < w.heap.size
  Rlt : ∀ p, p ∈ R → p < w.heap.size
  base : w0.heap.size ≤ w.heap.size

section
variable {w0 w wr w2 : World} {r f n : Nat} {R : List Nat} {L : List UInt8} {v : Value} {xs : List LeafV} {bd : Nat}

theorem LeafW.grow (h : LeafW w0 w wr r f n R L v xs bd) (g : wr.grownBy w2 none) : LeafW w0 w w2 r f n R L v xs bd :=
  ⟨grown_trans h.grown g, h.rs.grow g, h.own.grow g, h.len, h.rlt, h.flt, h.Rlt, h.base⟩
theorem LeafW.weak {bd2 : Nat} (h : LeafW w0 w wr r f n R L v xs bd) (hb : bd ≤ bd2) : LeafW w0 w wr r f n R L v xs bd2 :=
  ⟨h.grown, h.rs, h.own, Nat.le_trans h.len hb, h.rlt, h.flt, h.Rlt, h.base⟩
theorem grown_new {a b : World} {x : Nat} (h : w.grownBy a none) (g : a.grownBy b (some x)) (hx : w.heap.size ≤ x) : w.grownBy b none :=
  ⟨g.os.trans h.os, g.tape.trans h.tape, g.output.trans h.output, Nat.le_trans h.size g.size, fun k hk _ => (g.block k (Nat.lt_of_lt_of_le hk h.size) (by intro e; have e2 := Option.some.inj e; omega)).trans (h.block k hk (by simp))⟩
theorem LeafW.app {o : Obj} {v2 : Value} {ys : List LeafV} {bd2 : Nat} (h : LeafW w0 w wr r f n R L v xs bd) (g : (wr.alloc o).grownBy w2 v.ownBlock) (hown : LeafsOwn w2 w.heap.size v2 ys) (hl : ys.length ≤ bd2) : LeafW w0 w w2 r f n R L v2 ys bd2 := by
  have ga := World.grownBy_alloc wr o none
  cases hv : v.ownBlock with
  | none =>
    rw [hv] at g
    exact ⟨grown_trans h.grown (grown_trans ga g), (h.rs.grow ga).grow g, hown, hl, h.rlt, h.flt, h.Rlt, h.base⟩
  | some x =>
    rw [hv] at g
    have hx := (h.own.lt hv).1
    have h1 := h.rlt
    have h2 := h.flt
    exact ⟨grown_new (grown_trans h.grown ga) g hx, (h.rs.grow ga).grow' g (Nat.le_trans h.base hx) (by omega) (by omega) (fun e => by have := h.Rlt _ e; omega), hown, hl, h.rlt, h.flt, h.Rlt, h.base⟩

set_option maxRecDepth 100000 in
set_option maxHeartbeats 4000000 in
theorem ref_leaves (h : RS w0 w r f n R L) (root : Int) :
    Calls Try.prog 18 #[.pointer (some ⟨r, 0, none⟩), .int .i64 root] w fun e w' => ∃ v, e = .returned v ∧ LeafW w0 w w' r f n R L v (listA n L root 512) 134217728 := by
  have HW := Lib.hid (show LeafW w0 w w r f n R L (.slice none 0 0) (listA n L root 0) 0 from ⟨grown_refl _ _, h, LeafsOwn.nil _ _, Nat.le_refl _, h.mem.rlt, h.mem.flt, h.mem.Rlt, h.below.size⟩)
  clear h
  go_enter Try.func18, Try.ntmps18
  go_wp2_with fail
  go_loopw [5, 6] (fun lv iv wr => ∃ a : Nat, a ≤ 512 ∧ iv = .int .i64 a ∧ Hid (LeafW w0 w wr r f n R L lv (listA n L root a) (a * 262144))) (fun _ iv _ => 512 - (intOf iv).toNat)
  case atStart => exact ⟨0, by omega, rfl, HW.out⟩
  case round =>
    obtain ⟨a, ha, rfl, HA⟩ := hrel
    by_cases hlt : a < 512
    · go_wp2_with fail
      refine (ref_join_ok _ _ _ _).mono ?_
      rintro e w' ⟨rfl, rfl⟩
      go_wp2_with fail
      refine (ref_place2 HA.out.rs _ _).mono ?_
      rintro e w2 ⟨⟨x2, y2, rfl⟩, g2⟩
      replace HA := Lib.hid (HA.out.grow g2)
      clear g2
      cases hp : hasPlace n L root (joinOf (a : Int) 0 0) with
      | true =>
        have HY := Lib.hid (listA_yes n L root a (.inl hp))
        clear hp
        go_wp2_with fail
        go_loopw [5, 10] (fun lv jv wr => ∃ b : Nat, b ≤ 512 ∧ jv = .int .i64 b ∧ Hid (LeafW w0 w wr r f n R L lv (listB n L root a b) (a * 262144 + b * 512))) (fun _ jv _ => 512 - (intOf jv).toNat)
        case atStart => exact ⟨0, by omega, rfl, by rw [listB_zero]; exact HA.out.weak (by omega)⟩
        case round =>
          obtain ⟨b, hb, rfl, HB⟩ := hrel
          by_cases hltb : b < 512
          · go_wp2_with fail
            refine (ref_join_ok _ _ _ _).mono ?_
            rintro e w' ⟨rfl, rfl⟩
            go_wp2_with fail
            refine (ref_place2 HB.out.rs _ _).mono ?_
            rintro e w4 ⟨⟨x4, y4, rfl⟩, g4⟩
            replace HB := Lib.hid (HB.out.grow g4)
            clear g4
            cases hq : hasPlace n L root (joinOf (a : Int) (b : Int) 0) with
            | true =>
              have HYb := Lib.hid (listB_yes n L root a b hq)
              clear hq
              go_wp2_with fail
              go_loopw [5, 14] (fun lv kv wr => ∃ c : Nat, c ≤ 512 ∧ kv = .int .i64 c ∧ Hid (LeafW w0 w wr r f n R L lv (listC n L root a b c) (a * 262144 + b * 512 + c))) (fun _ kv _ => 512 - (intOf kv).toNat)
              case atStart => exact ⟨0, by omega, rfl, by rw [listC_zero]; exact HB.out.weak (by omega)⟩
              case round =>
                obtain ⟨c, hc, rfl, HC⟩ := hrel
                by_cases hltc : c < 512
                · go_wp2_with fail
                  refine (ref_join_ok _ _ _ _).mono ?_
                  rintro e w' ⟨rfl, rfl⟩
                  go_wp2_with fail
                  refine (ref_look2 HC.out.rs _ _).mono ?_
                  rintro e w5 ⟨⟨b5, rfl⟩, g5⟩
                  replace HC := Lib.hid (HC.out.grow g5)
                  have HK0 := ref_kind_ok (lookF n L root (joinOf (a : Int) (b : Int) (c : Int))) (lookP n L root (joinOf (a : Int) (b : Int) (c : Int)))
                  have hkk : kindOf (lookF n L root (joinOf (a : Int) (b : Int) (c : Int))) = 2 ∨ kindOf (lookF n L root (joinOf (a : Int) (b : Int) (c : Int))) ≠ 2 := by omega
                  have HCY := Lib.hid (listC_yes n L root a b c)
                  have HCN := Lib.hid (listC_no n L root a b c)
                  clear g5
                  generalize lookF n L root (joinOf (a : Int) (b : Int) (c : Int)) = F at *
                  generalize lookP n L root (joinOf (a : Int) (b : Int) (c : Int)) = G at *
                  generalize joinOf (a : Int) (b : Int) (c : Int) = vp at *
                  have HC6 := Lib.hid (HC.out.grow (World.grownBy_alloc w5 (.cells #[.int .i64 F, .int .i64 G] 40) none))
                  have HY6 := Lib.hid (show EntB (w5.alloc (.cells #[.int .i64 F, .int .i64 G] 40)) w5.heap.size F G from heap_alloc_new w5 _)
                  rcases hkk with hk | hk
                  · rw [hk] at HK0
                    have HK := Lib.hid HK0
                    have HS := Lib.hid (HCY.out hk)
                    clear HK0 hk HCY HCN
                    go_wp2_with fail
                    refine (HK.out _).mono ?_
                    rintro e w7 ⟨rfl, h7⟩
                    have HC7 := Lib.hid (HC6.out.grow (grown_of_below' h7))
                    have HY7 := Lib.hid (HY6.out.grow (grown_of_below' h7))
                    have hc0 := HY7.out.at.1
                    have hc1 := HY7.out.at.2
                    clear h7
                    have hln := HC7.out.len
                    have hbs := HC7.out.grown.size
                    go_wp2_with (at_builtin; refine wpList_leaf _ rfl _ _ rfl w.heap.size _ _ ⟨vp, F, G⟩ (by rfl) HC7.out.own w7.heap.size _ (by rfl) rfl (by omega) hbs ?_; intro g8 cap8 w8 hown8 hg8)
                    have HC8 := Lib.hid (HC7.out.app (bd2 := a * 262144 + b * 512 + (c + 1)) hg8 hown8 (by simp; omega))
                    clear hown8 hg8 hln hbs
                    go_wp2_with fail
                    go_roundw
                    case rel => exact ⟨c + 1, by omega, by go_num, by rw [HS.out]; exact HC8.out⟩
                    case measure => simp [intOf]; omega
                  · have HK := Lib.hid HK0
                    have HS := Lib.hid (HCN.out hk)
                    have e0 : (kindOf F == 2) = false := by simp [hk]
                    clear HK0 hk HCY HCN
                    generalize kindOf F = kd at *
                    go_wp2_with fail
                    refine (HK.out _).mono ?_
                    rintro e w7 ⟨rfl, h7⟩
                    have HC7 := Lib.hid (HC6.out.grow (grown_of_below' h7))
                    clear h7
                    go_wp2_with fail
                    go_roundw
                    case rel => exact ⟨c + 1, by omega, by go_num, by rw [HS.out]; exact HC7.out.weak (by omega)⟩
                    case measure => simp [intOf]; omega
                · obtain rfl : c = 512 := by omega
                  go_wp2_with fail
                  go_roundw
                  case rel => exact ⟨b + 1, by omega, by go_num, by rw [HYb.out]; exact HC.out.weak (by omega)⟩
                  case measure => simp [intOf]; omega
            | false =>
              have HNb := Lib.hid (listB_no n L root a b hq)
              clear hq
              go_wp2_with fail
              go_roundw
              case rel => exact ⟨b + 1, by omega, by go_num, by rw [HNb.out]; exact HB.out.weak (by omega)⟩
              case measure => simp [intOf]; omega
          · obtain rfl : b = 512 := by omega
            go_wp2_with fail
            go_roundw
            case rel => exact ⟨a + 1, by omega, by go_num, by rw [HY.out]; exact HB.out.weak (by omega)⟩
            case measure => simp [intOf]; omega
      | false =>
        cases ht : isTable n L root (a : Int) with
        | true =>
          have HY := Lib.hid (listA_yes n L root a (.inr ht))
          have HT := Lib.hid (fun w h => (ref_table (w0 := w0) (w := w) (r := r) (f := f) (n := n) (R := R) (L := L) h root (a : Int)))
          rw [ht] at HT
          clear hp ht
          go_wp2_with fail
          refine (HT.out _ HA.out.rs).mono ?_
          rintro e w3 ⟨rfl, g3⟩
          replace HA := Lib.hid (HA.out.grow g3)
          clear g3
          go_wp2_with fail
          go_loopw [5, 10] (fun lv jv wr => ∃ b : Nat, b ≤ 512 ∧ jv = .int .i64 b ∧ Hid (LeafW w0 w wr r f n R L lv (listB n L root a b) (a * 262144 + b * 512))) (fun _ jv _ => 512 - (intOf jv).toNat)
          case atStart => exact ⟨0, by omega, rfl, by rw [listB_zero]; exact HA.out.weak (by omega)⟩
          case round =>
            obtain ⟨b, hb, rfl, HB⟩ := hrel
            by_cases hltb : b < 512
            · go_wp2_with fail
              refine (ref_join_ok _ _ _ _).mono ?_
              rintro e w' ⟨rfl, rfl⟩
              go_wp2_with fail
              refine (ref_place2 HB.out.rs _ _).mono ?_
              rintro e w4 ⟨⟨x4, y4, rfl⟩, g4⟩
              replace HB := Lib.hid (HB.out.grow g4)
              clear g4
              cases hq : hasPlace n L root (joinOf (a : Int) (b : Int) 0) with
              | true =>
                have HYb := Lib.hid (listB_yes n L root a b hq)
                clear hq
                go_wp2_with fail
                go_loopw [5, 14] (fun lv kv wr => ∃ c : Nat, c ≤ 512 ∧ kv = .int .i64 c ∧ Hid (LeafW w0 w wr r f n R L lv (listC n L root a b c) (a * 262144 + b * 512 + c))) (fun _ kv _ => 512 - (intOf kv).toNat)
                case atStart => exact ⟨0, by omega, rfl, by rw [listC_zero]; exact HB.out.weak (by omega)⟩
                case round =>
                  obtain ⟨c, hc, rfl, HC⟩ := hrel
                  by_cases hltc : c < 512
                  · go_wp2_with fail
                    refine (ref_join_ok _ _ _ _).mono ?_
                    rintro e w' ⟨rfl, rfl⟩
                    go_wp2_with fail
                    refine (ref_look2 HC.out.rs _ _).mono ?_
                    rintro e w5 ⟨⟨b5, rfl⟩, g5⟩
                    replace HC := Lib.hid (HC.out.grow g5)
                    have HK0 := ref_kind_ok (lookF n L root (joinOf (a : Int) (b : Int) (c : Int))) (lookP n L root (joinOf (a : Int) (b : Int) (c : Int)))
                    have hkk : kindOf (lookF n L root (joinOf (a : Int) (b : Int) (c : Int))) = 2 ∨ kindOf (lookF n L root (joinOf (a : Int) (b : Int) (c : Int))) ≠ 2 := by omega
                    have HCY := Lib.hid (listC_yes n L root a b c)
                    have HCN := Lib.hid (listC_no n L root a b c)
                    clear g5
                    generalize lookF n L root (joinOf (a : Int) (b : Int) (c : Int)) = F at *
                    generalize lookP n L root (joinOf (a : Int) (b : Int) (c : Int)) = G at *
                    generalize joinOf (a : Int) (b : Int) (c : Int) = vp at *
                    have HC6 := Lib.hid (HC.out.grow (World.grownBy_alloc w5 (.cells #[.int .i64 F, .int .i64 G] 40) none))
                    have HY6 := Lib.hid (show EntB (w5.alloc (.cells #[.int .i64 F, .int .i64 G] 40)) w5.heap.size F G from heap_alloc_new w5 _)
                    rcases hkk with hk | hk
                    · rw [hk] at HK0
                      have HK := Lib.hid HK0
                      have HS := Lib.hid (HCY.out hk)
                      clear HK0 hk HCY HCN
                      go_wp2_with fail
                      refine (HK.out _).mono ?_
                      rintro e w7 ⟨rfl, h7⟩
                      have HC7 := Lib.hid (HC6.out.grow (grown_of_below' h7))
                      have HY7 := Lib.hid (HY6.out.grow (grown_of_below' h7))
                      have hc0 := HY7.out.at.1
                      have hc1 := HY7.out.at.2
                      clear h7
                      have hln := HC7.out.len
                      have hbs := HC7.out.grown.size
                      go_wp2_with (at_builtin; refine wpList_leaf _ rfl _ _ rfl w.heap.size _ _ ⟨vp, F, G⟩ (by rfl) HC7.out.own w7.heap.size _ (by rfl) rfl (by omega) hbs ?_; intro g8 cap8 w8 hown8 hg8)
                      have HC8 := Lib.hid (HC7.out.app (bd2 := a * 262144 + b * 512 + (c + 1)) hg8 hown8 (by simp; omega))
                      clear hown8 hg8 hln hbs
                      go_wp2_with fail
                      go_roundw
                      case rel => exact ⟨c + 1, by omega, by go_num, by rw [HS.out]; exact HC8.out⟩
                      case measure => simp [intOf]; omega
                    · have HK := Lib.hid HK0
                      have HS := Lib.hid (HCN.out hk)
                      have e0 : (kindOf F == 2) = false := by simp [hk]
                      clear HK0 hk HCY HCN
                      generalize kindOf F = kd at *
                      go_wp2_with fail
                      refine (HK.out _).mono ?_
                      rintro e w7 ⟨rfl, h7⟩
                      have HC7 := Lib.hid (HC6.out.grow (grown_of_below' h7))
                      clear h7
                      go_wp2_with fail
                      go_roundw
                      case rel => exact ⟨c + 1, by omega, by go_num, by rw [HS.out]; exact HC7.out.weak (by omega)⟩
                      case measure => simp [intOf]; omega
                  · obtain rfl : c = 512 := by omega
                    go_wp2_with fail
                    go_roundw
                    case rel => exact ⟨b + 1, by omega, by go_num, by rw [HYb.out]; exact HC.out.weak (by omega)⟩
                    case measure => simp [intOf]; omega
              | false =>
                have HNb := Lib.hid (listB_no n L root a b hq)
                clear hq
                go_wp2_with fail
                go_roundw
                case rel => exact ⟨b + 1, by omega, by go_num, by rw [HNb.out]; exact HB.out.weak (by omega)⟩
                case measure => simp [intOf]; omega
            · obtain rfl : b = 512 := by omega
              go_wp2_with fail
              go_roundw
              case rel => exact ⟨a + 1, by omega, by go_num, by rw [HY.out]; exact HB.out.weak (by omega)⟩
              case measure => simp [intOf]; omega
        | false =>
          have HN := Lib.hid (listA_no n L root a hp ht)
          have HT := Lib.hid (fun w h => (ref_table (w0 := w0) (w := w) (r := r) (f := f) (n := n) (R := R) (L := L) h root (a : Int)))
          rw [ht] at HT
          clear hp ht
          go_wp2_with fail
          refine (HT.out _ HA.out.rs).mono ?_
          rintro e w3 ⟨rfl, g3⟩
          replace HA := Lib.hid (HA.out.grow g3)
          clear g3
          go_wp2_with fail
          go_roundw
          case rel => exact ⟨a + 1, by omega, by go_num, by rw [HN.out]; exact HA.out.weak (by omega)⟩
          case measure => simp [intOf]; omega
    · obtain rfl : a = 512 := by omega
      go_wp2_with fail
      go_ret
      exact ⟨_, rfl, HA.out⟩
end
end Go.Proofs.Ytomkhdefjfjlnaa
