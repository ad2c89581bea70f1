/- Layer 5's walks as its rows want them: what the arguments read as; nothing older has turned. -/
import Derived.Test.YtmddflhacamnaaaTOpen
import Derived.Test.YtmddflhacamnaaaTLast
import Derived.Test.YtmddflhacamnaaaTAsids
namespace Go.Proofs.Ytmddflhacamnaaa
open Go.ChangeShapes Go.WideShapes Go.ChangeAt Go.RowKit
set_option linter.unusedVariables false

theorem okI_wf {x : Int} (h : (Lit.int .i64 x).wf = true) : okI x := wf_ok64 h
theorem okU_wf {x : Int} (h : (Lit.int .u64 x).wf = true) : okU x := by
  simp [Lit.wf, IntKind.min, IntKind.max, IntKind.signed, IntKind.bits] at h
  exact ⟨by omega, by omega⟩
theorem below_of {w w' : World} (g : w.grownBy w' none) : Below w.heap.size w w' := ⟨g.os, g.tape, g.output, g.size, fun k hk => g.block k hk (by simp)⟩

theorem slice_cap {H : Type} {enc : TypeId × Value → H} {P : Program} {w : World} {base : Nat} {spare : Nat → Bool} {held : Bool} {t e : TypeId} {fuel : Nat} {s : Option Addr} {l c : Nat} {x : DataW H × List MemPlace} (ht : P.underlying t = some (.slice e))
    (h : DataW.trod enc P w base spare held fuel t [.slice s l c] = some x) : l ≤ c := by
  rcases DataW.trod_slice ht h with ⟨hcs, _⟩ | ⟨a, len, cap, elems, rest, m, _, hcs, _, _, hlc, _⟩
  · simp at hcs
    omega
  · simp at hcs
    omega
theorem tkeys_of_trod {H : Type} {enc : TypeId × Value → H} {w : World} {base : Nat} {spare : Nat → Bool} {held : Bool} {fuel : Nat} {s : Option Addr} {l c : Nat} {x : DataW H × List MemPlace}
    (h : DataW.trod enc Try.prog w base spare held fuel 44 [.slice s l c] = some x) : ∃ zss, IntRows w s l 2 zss :=
  introws_of_trod (d := 4) (n := 2) Try.underlying44 (by kernel_rfl) (by kernel_rfl) (by omega) h

set_option maxRecDepth 100000 in
theorem tact_of {H : Type} {enc : TypeId × Value → H} {w w1 : World} {base b0 : Nat} {spare : Nat → Bool} {held : Bool} {r : Reach} {v : Value} {d : DataW H} {p : List MemPlace}
    (h : DataW.Trod enc Try.prog w base spare held 33 v d p) (hv : Value.okWide Try.prog w1 r b0 33 v) :
    ∃ A : TActV, v = .agg #[.int .i64 A.k, .int .i64 A.a, .int .i64 A.v, .int .i64 A.fl, .int .i64 A.pp] ∧ okI A.a ∧ okI A.v := by
  obtain ⟨cs, rfl, _⟩ := okWide_struct Try.underlying33 hv
  obtain ⟨fuel, hf⟩ := h
  obtain ⟨hl, hck⟩ := ck_of_trod 4 33 (List.replicate 5 (.int .i64)) _ fuel _ (by kernel_rfl) hf
  obtain ⟨zs, hz, hcs, hok⟩ := ck_ints (n := 5) (by rw [hl, List.length_replicate]) hck
  obtain ⟨l⟩ := cs
  simp only [Value.cells] at hcs
  match zs, hz with
  | [k, a, b, f, q], _ =>
    refine ⟨⟨k, a, b, f, q⟩, ?_, hok a (by simp), hok b (by simp)⟩
    have e : l = [k, a, b, f, q].map (Value.int .i64) := hcs
    rw [e]
    rfl

section
variable {T : World → Nat → Int → List KeptV → List Nat → Prop} (H : TlbOk T) (W : World)
include H
theorem tacts_say (size : Int) (s : Option Addr) (l c : Nat) (As : List TActV) (hA : TActsAre W s l As) :
    Calls Try.prog 3 #[.int .i64 size, .slice s l c] W fun e W' => e = .returned (.bool true) ∧ Below W.heap.size W W' :=
  (tacts_walk H W size s l c As hA).mono fun e w' h => ⟨h.1, below_of h.2⟩
theorem tlast_say (size : Int) (s : Option Addr) (l c : Nat) (As : List TActV) (hA : TActsAre W s l As) (hs : okU size) (hlc : l ≤ c) :
    Calls Try.prog 4 #[.int .u64 size, .slice s l c] W fun e W' => e = .returned (.bool true) ∧ Below W.heap.size W W' :=
  (tlast_walk H W size hs s l c hlc As hA).mono fun e w' h => ⟨h.1, below_of h.2⟩
theorem eldest_say (size many : Int) (hs : okU size) (hm : okU many) :
    Calls Try.prog 5 #[.int .u64 size, .int .u64 many] W fun e W' => e = .returned (.bool true) ∧ Below W.heap.size W W' :=
  (eldest_walk H W size many hs hm).mono fun e w' h => ⟨h.1, below_of h.2⟩
theorem asids_say (s : Option Addr) (l c : Nat) (zss : List (List Int)) (hZ : IntRows W s l 2 zss) (asid : Int) (ha : okI asid) :
    Calls Try.prog 7 #[.slice s l c, .int .i64 asid] W fun e W' => e = .returned (.bool true) ∧ Below W.heap.size W W' :=
  (asids_walk H W s l c zss hZ asid ha).mono fun e w' h => ⟨h.1, below_of h.2⟩
end
end Go.Proofs.Ytmddflhacamnaaa
