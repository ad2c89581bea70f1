/- Layer 6's walks as its rows want them: what the arguments read as; nothing older has turned. -/
import Derived.Test.YtabgfjmfhkfbmaaTInts
import Derived.Test.YtabgfjmfhkfbmaaFClasses
import Derived.Test.YtabgfjmfhkfbmaaFReserve
import Derived.Test.YtabgfjmfhkfbmaaFNone
namespace Go.Proofs.Ytabgfjmfhkfbmaa
open Go.ChangeShapes Go.WideShapes Go.ChangeAt Go.RowKit
set_option linter.unusedVariables false

theorem okI_wf {x : Int} (h : (Lit.int .i64 x).wf = true) : okI x := wf_ok64 h
theorem okU_wf {x : Int} (h : (Lit.int .u64 x).wf = true) : okU x := by
  simp [Lit.wf, IntKind.min, IntKind.max, IntKind.signed, IntKind.bits] at h
  exact ⟨by omega, by omega⟩
theorem below_of {w w' : World} (g : w.grownBy w' none) : Below w.heap.size w w' := ⟨g.os, g.tape, g.output, g.size, fun k hk => g.block k hk (by simp)⟩

theorem facts_of_trod {H : Type} {enc : TypeId × Value → H} {w : World} {base : Nat} {spare : Nat → Bool} {held : Bool} {fuel : Nat} {s : Option Addr} {l c : Nat} {x : DataW H × List MemPlace}
    (h : DataW.trod enc Try.prog w base spare held fuel 22 [.slice s l c] = some x) : ∃ As, FActsAre w s l As := by
  obtain ⟨zss, hz⟩ := introws_of_trod (d := 4) (n := 5) Try.underlying22 (by kernel_rfl) (by kernel_rfl) (by omega) h
  have key : ∀ zs, zs ∈ zss → ∃ A : FActV, factCells A = zs.map (Value.int .i64) ∧ A.Ok := by
    intro zs hzs
    obtain ⟨hl, hok⟩ := hz.each zs hzs
    match zs, hl with
    | [k, f, a, b, c], _ => exact ⟨⟨k, f, a, b, c⟩, rfl, hok f (by simp), hok a (by simp), hok b (by simp), hok c (by simp)⟩
  obtain ⟨As, hl, hAs⟩ := list_all l (fun i (A : FActV) => ∃ zs, zss[i]? = some zs ∧ factCells A = zs.map (Value.int .i64) ∧ A.Ok) fun i hi => by
    have hg : zss[i]? = some (zss[i]'(by rw [hz.len]; exact hi)) := List.getElem?_eq_getElem (by rw [hz.len]; exact hi)
    obtain ⟨A, h1, h2⟩ := key _ (List.mem_of_getElem? hg)
    exact ⟨A, _, hg, h1, h2⟩
  refine ⟨As, hl, ?_, fun A hA => ?_⟩
  · rcases hz.cells with h1 | ⟨g, o, hs, hc⟩
    · exact .inl h1
    · refine .inr ⟨g, o, hs, fun i A hi j u hu => ?_⟩
      obtain ⟨zs, hzi, hA, _⟩ := hAs i A hi
      rw [hA, List.getElem?_map] at hu
      obtain ⟨z, hzj, rfl⟩ := Option.map_eq_some_iff.1 hu
      exact hc i zs hzi j z hzj
  · obtain ⟨i, hi⟩ := List.getElem?_of_mem hA
    obtain ⟨_, _, _, h1⟩ := hAs i A hi
    exact h1

set_option maxRecDepth 100000 in
theorem fact_of {H : Type} {enc : TypeId × Value → H} {w w1 : World} {base b0 : Nat} {spare : Nat → Bool} {held : Bool} {r : Reach} {v : Value} {d : DataW H} {p : List MemPlace}
    (h : DataW.Trod enc Try.prog w base spare held 29 v d p) (hv : Value.okWide Try.prog w1 r b0 29 v) :
    ∃ A : FActV, v = .agg #[.int .i64 A.k, .int .i64 A.f, .int .i64 A.a, .int .i64 A.b, .int .i64 A.c] ∧ A.Ok := by
  obtain ⟨cs, rfl, _⟩ := okWide_struct Try.underlying29 hv
  obtain ⟨fuel, hf⟩ := h
  obtain ⟨hl, hck⟩ := ck_of_trod 4 29 (List.replicate 5 (.int .i64)) _ fuel _ (by kernel_rfl) hf
  obtain ⟨zs, hz, hcs, hok⟩ := ck_ints (n := 5) (by rw [hl, List.length_replicate]) hck
  obtain ⟨l⟩ := cs
  simp only [Value.cells] at hcs
  match zs, hz with
  | [k, f, a, b, c], _ =>
    refine ⟨⟨k, f, a, b, c⟩, ?_, hok f (by simp), hok a (by simp), hok b (by simp), hok c (by simp)⟩
    have e : l = [k, f, a, b, c].map (Value.int .i64) := hcs
    rw [e]
    rfl

section
variable {P : World → Nat → Int → List FrV → List Nat → Prop} (H : FrOk P) (W : World)
include H
theorem facts_say (n rs : Int) (s : Option Addr) (l c : Nat) (As : List FActV) (hA : FActsAre W s l As) (hn : okI n) :
    Calls Try.prog 3 #[.int .i64 n, .int .i64 rs, .slice s l c] W fun e W' => e = .returned (.bool true) ∧ Below W.heap.size W W' :=
  (facts_walk H W n rs s l c As hA hn).mono fun e w' h => ⟨h.1, below_of h.2⟩
theorem classes_say (n0 : Int) (s : Option Addr) (l c : Nat) (As : List FActV) (hA : FActsAre W s l As) (hn : okU n0) :
    Calls Try.prog 4 #[.int .u64 n0, .slice s l c] W fun e W' => e = .returned (.bool true) ∧ Below W.heap.size W W' :=
  (classes_walk H W n0 s l c As hA hn).mono fun e w' h => ⟨h.1, below_of h.2⟩
theorem reserve_say (n0 rs0 gv : Int) (hn : okU n0) (hr : okU rs0) (hg : okU gv) :
    Calls Try.prog 5 #[.int .u64 n0, .int .u64 rs0, .int .u64 gv] W fun e W' => e = .returned (.bool true) ∧ Below W.heap.size W W' :=
  (reserve_walk H W n0 rs0 gv hn hr hg).mono fun e w' h => ⟨h.1, below_of h.2⟩
theorem holds_say (wire loan : Int) (hw : okU wire) (hl : okU loan) :
    Calls Try.prog 7 #[.int .u64 wire, .int .u64 loan] W fun e W' => e = .returned (.bool true) ∧ Below W.heap.size W W' :=
  (holds_walk H W wire loan hw hl).mono fun e w' h => ⟨h.1, below_of h.2⟩
end
theorem fnone_say {P : World → Nat → Int → List FrV → List Nat → Prop} (H : FrOk P) {N : World → Value → Prop} (M : NoneOk6 N) (hz : ∀ w : World, N (w.alloc poolZero) (.pointer (some ⟨w.heap.size, 0, none⟩))) (W : World) (A : FActV) (hA : A.Ok) :
    Calls Try.prog 6 #[.agg #[.int .i64 A.k, .int .i64 A.f, .int .i64 A.a, .int .i64 A.b, .int .i64 A.c]] W fun e W' => e = .returned (.bool true) ∧ Below W.heap.size W W' :=
  (fnone_walk H M hz W A hA).mono fun e w' h => ⟨h.1, below_of h.2⟩
end Go.Proofs.Ytabgfjmfhkfbmaa
