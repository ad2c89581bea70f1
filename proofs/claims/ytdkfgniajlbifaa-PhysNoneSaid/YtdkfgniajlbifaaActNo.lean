/- An act on a memory that no call made: nothing is done. -/
import Derived.Test.YtdkfgniajlbifaaLives
namespace Go.Proofs.Ytdkfgniajlbifaa
open Go.ChangeShapes Go.WideShapes Go.ChangeAt Go.RowKit
open Extern.Stop (cell)
set_option linter.unusedVariables false

theorem Bare.alloc {w : World} {p : Option Addr} (h : Bare w p) (o : Obj) : Bare (w.alloc o) p := fun a ha => Lib.cell?_alloc_some o (h a ha)

theorem act_bare (p : Option Addr) (k a b v : Int) (s : Option Addr) (l c : Nat) (w : World) (h : Bare w p) :
    Calls Try.prog 14 #[.pointer p, .agg #[.int .i64 k, .int .i64 a, .int .i64 b, .int .u64 v, .slice s l c]] w fun e w' => e = .returned (.bool false) ∧ w.grownBy w' none := by
  have HN : Hid (∀ o, NoFrame (w.alloc o) p a) := Lib.hid fun o => find_bare p a _ (h.alloc o)
  have HNb : Hid (∀ o, NoFrame (w.alloc o) p b) := Lib.hid fun o => find_bare p b _ (h.alloc o)
  have HW : Hid (∀ o, NoWord (w.alloc o) p a b) := Lib.hid fun o => findWord_no p a b _ (HN.out o)
  clear h
  by_cases h0 : k = 0
  · subst h0
    go_enter Try.func14, Try.ntmps14
    go_wp2_with (go_at_call 27; refine (setByte_no _ _ _ _ _ (HN.out _)).mono ?_; rintro e w' ⟨rfl, rfl⟩)
    go_ret
    exact ⟨rfl, World.grownBy_alloc w _ none⟩
  have b0 : (k == 0) = false := by simpa using h0
  by_cases h1 : k = 1
  · subst h1
    go_enter Try.func14, Try.ntmps14
    go_wp2_with (go_at_call 28; refine (setWord_no _ _ _ _ _ (HW.out _)).mono ?_; rintro e w' ⟨rfl, rfl⟩)
    go_ret
    exact ⟨rfl, World.grownBy_alloc w _ none⟩
  have b1 : (k == 1) = false := by simpa using h1
  by_cases h2 : k = 2
  · subst h2
    go_enter Try.func14, Try.ntmps14
    go_wp2_with (go_at_call 30; refine (zero_no _ _ _ (HN.out _)).mono ?_; rintro e w' ⟨rfl, rfl⟩)
    go_ret
    exact ⟨rfl, World.grownBy_alloc w _ none⟩
  have b2 : (k == 2) = false := by simpa using h2
  by_cases h3 : k = 3
  · subst h3
    go_enter Try.func14, Try.ntmps14
    go_wp2_with (go_at_call 29; refine (copy_no _ none none _ _ _ (HN.out _) (HNb.out _) (.inl rfl)).mono ?_; rintro e w' ⟨rfl, rfl⟩)
    go_ret
    exact ⟨rfl, World.grownBy_alloc w _ none⟩
  have b3 : (k == 3) = false := by simpa using h3
  by_cases h4 : k = 4
  · subst h4
    go_enter Try.func14, Try.ntmps14
    go_wp2_with (go_at_call 26; refine (fill_no _ _ _ _ _ _ (HN.out _)).mono ?_; rintro e w' ⟨rfl, rfl⟩)
    go_ret
    exact ⟨rfl, World.grownBy_alloc w _ none⟩
  have b4 : (k == 4) = false := by simpa using h4
  clear h0 h1 h2 h3 h4
  go_enter Try.func14, Try.ntmps14
  go_wp2
  go_ret
  exact ⟨rfl, World.grownBy_alloc w _ none⟩
end Go.Proofs.Ytdkfgniajlbifaa
