/- PmapActs' walk as its row wants it. -/
import Derived.Test.YtlieommbomjdaaaGreatMActs
import Derived.Test.YtlieommbomjdaaaGreatQB7
namespace Go.Proofs.YtlieommbomjdaaaGreat
open Go.ChangeShapes Go.WideShapes Go.ChangeAt Go.RowKit
set_option linter.unusedVariables false

theorem below_ofZ {w w' : World} (g : w.grownBy w' none) : Below w.heap.size w w' := ⟨g.os, g.tape, g.output, g.size, fun k hk => g.block k hk (by simp)⟩
set_option maxRecDepth 100000 in
theorem shape_of {H : Type} {enc : TypeId × Value → H} {w w1 : World} {base b0 : Nat} {spare : Nat → Bool} {held : Bool} {r : Reach} {v : Value} {d : DataW H} {p : List MemPlace}
    (h : DataW.Trod enc Tryz.prog w base spare held 23 v d p) (hv : Value.okWide Tryz.prog w1 r b0 23 v) :
    ∃ F G : Int, v = .agg #[.int .i64 F, .int .i64 G] ∧ okI F ∧ okI G := by
  obtain ⟨cs, rfl, _⟩ := okWide_struct Tryz.underlying23 hv
  obtain ⟨fuel, hf⟩ := h
  obtain ⟨hl, hck⟩ := ck_of_trod 4 23 (List.replicate 2 (.int .i64)) _ fuel _ (by kernel_rfl) hf
  obtain ⟨zs, hz, hcs, hok⟩ := ck_ints (n := 2) (by rw [hl, List.length_replicate]) hck
  obtain ⟨l⟩ := cs
  simp only [Value.cells] at hcs
  match zs, hz with
  | [k, f], _ =>
    refine ⟨k, f, ?_, hok k (by simp), hok f (by simp)⟩
    have e : l = [k, f].map (Value.int .i64) := hcs
    rw [e]
    rfl

theorem acts_say (W : World) (F0 P0 : Int) (s : Option Addr) (l c : Nat) (As : List A7) (hA : A7sAre W s l As) (hF : okI F0) (hP : okI P0) :
    Calls Tryz.prog 3 #[.agg #[.int .i64 F0, .int .i64 P0], .slice s l c] W fun e W' => e = .returned (.bool true) ∧ Below W.heap.size W W' :=
  (acts7_walk pmOk W F0 P0 s l c As hA hF hP).mono fun e w' h => ⟨h.1, below_ofZ h.2⟩
end Go.Proofs.YtlieommbomjdaaaGreat
