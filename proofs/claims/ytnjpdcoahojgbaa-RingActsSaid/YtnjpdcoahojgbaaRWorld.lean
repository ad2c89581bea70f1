/- Rows of items in a world; over any program. -/
import Derived.Test.YtnjpdcoahojgbaaRMap
namespace Go.Proofs.Ytnjpdcoahojgbaa
open Go.RowKit
set_option linter.unusedVariables false

section
variable {K : Type}

/-- Which blocks are the rows' own. -/
def own (b L M : Nat) (S : List (List (K × Nat))) : List Nat := b :: L :: M :: S.flatten.map (·.2)

/-- Block b is the rows S of items in places. -/
structure Ring (P : Program) (kt : TypeId) (kv : K → Value) (kl : K → Lit) (ok : K → Prop) (w : World) (F : Gm) (b L M cap : Nat) (S : List (List (K × Nat))) : Prop where
  holds : Holds w F
  ring : RingF kv F b L M cap S
  map : MapOf P kt kl w M S.flatten
  keys : (S.flatten.map (·.1)).Nodup
  ok : ∀ n, n ∈ S.flatten → ok n.1
  max : S.flatten.length ≤ 4096
  rows : 1 ≤ S.length ∧ S.length ≤ 64
  cap : S.length ≤ cap

variable {P : Program} {kt mt et : TypeId} {kv : K → Value} {kl : K → Lit} {ok : K → Prop} {w w' : World} {F : Gm} {b L M cap : Nat} {S : List (List (K × Nat))}

theorem Ring.cellBlock (h : Ring P kt kv kl ok w F b L M cap S) {g : Nat} (hg : g ∈ own b L M S) : g = M ∨ ∃ o v, F g o = some v := by
  unfold own at hg
  simp only [List.mem_cons] at hg
  rcases hg with rfl | rfl | rfl | hg
  · exact .inr ⟨0, _, h.ring.lines⟩
  · have : (S[0]?).isSome := by
      have := h.rows.1
      rw [List.getElem?_eq_getElem (by omega)]
      rfl
    obtain ⟨ns, hns⟩ := Option.isSome_iff_exists.1 this
    exact .inr ⟨_, _, h.ring.cnt 0 ns hns⟩
  · exact .inl rfl
  · obtain ⟨n, hn, rfl⟩ := List.mem_map.1 hg
    obtain ⟨ns, hm, hn2⟩ := List.mem_flatten.1 hn
    obtain ⟨r, hr⟩ := List.mem_iff_getElem?.1 hm
    exact .inr ⟨0, _, (h.ring.item r ns n hr hn2).1⟩

theorem Ring.lt (h : Ring P kt kv kl ok w F b L M cap S) {g : Nat} (hg : g ∈ own b L M S) : g < w.heap.size := by
  rcases h.cellBlock hg with rfl | ⟨o, v, hv⟩
  · exact h.map.lt
  · exact h.holds.lt hv

/-- The ghost speaks of the rows' own blocks alone, or may be made so. -/
def inOwn (F : Gm) (O : List Nat) : Gm := fun x y => if x ∈ O then F x y else none

theorem inOwn_of {F : Gm} {O : List Nat} {x y : Nat} (h : x ∈ O) : inOwn F O x y = F x y := by simp [inOwn, h]

theorem Lk.inOwn {F : Gm} {O : List Nat} {u v : Pl} (h : Lk F u v) (hu : u.1 ∈ O) (hv : v.1 ∈ O) : Lk (inOwn F O) u v := h.agree (inOwn_of hu) (inOwn_of hv)

theorem RingF.inOwn (h : RingF kv F b L M cap S) : RingF kv (inOwn F (own b L M S)) b L M cap S := by
  have hb : b ∈ own b L M S := by simp [own]
  have hL : L ∈ own b L M S := by simp [own]
  have hn : ∀ n, n ∈ S.flatten → n.2 ∈ own b L M S := fun n hn => by
    unfold own
    simp only [List.mem_cons]
    exact .inr (.inr (.inr (List.mem_map.2 ⟨n, hn, rfl⟩)))
  refine ⟨(inOwn_of hb).trans h.lines, (inOwn_of hb).trans h.wh, (inOwn_of hb).trans h.items, fun r ns hr => (inOwn_of hL).trans (h.cnt r ns hr), fun r ns n hr hm => ?_, fun r ns hr => ?_, h.blocks⟩
  · have := hn n (mem_flat_of hr hm)
    exact ⟨(inOwn_of this).trans (h.item r ns n hr hm).1, (inOwn_of this).trans (h.item r ns n hr hm).2⟩
  · have blk : ∀ y, y ∈ ringOf L r ns → y.1 ∈ own b L M S := by
      intro y hy
      rcases block_ring hy with rfl | ⟨n, hm, rfl⟩
      · exact hL
      · exact hn n (mem_flat_of hr hm)
    exact (h.chain r ns hr).mono fun u v hu hv huv => huv.inOwn (blk u (List.dropLast_subset _ hu)) (blk v (List.mem_of_mem_tail hv))

/-- Rows stay while their own blocks do. -/
theorem Ring.kept (h : Ring P kt kv kl ok w F b L M cap S) (hb : ∀ g, g ∈ own b L M S → w'.heap[g]? = w.heap[g]?) : Ring P kt kv kl ok w' (Go.Proofs.Ytnjpdcoahojgbaa.inOwn F (own b L M S)) b L M cap S := by
  refine ⟨?_, h.ring.inOwn, h.map.kept (hb M (by simp [own])), h.keys, h.ok, h.max, h.rows, h.cap⟩
  refine (h.holds.weaken (G := Go.Proofs.Ytnjpdcoahojgbaa.inOwn F (own b L M S)) ?_).kept ?_
  · intro x y v hv
    by_cases hx : x ∈ own b L M S
    · rwa [inOwn_of hx] at hv
    · simp [Go.Proofs.Ytnjpdcoahojgbaa.inOwn, hx] at hv
  · intro x y v hv
    by_cases hx : x ∈ own b L M S
    · exact hb x hx
    · simp [Go.Proofs.Ytnjpdcoahojgbaa.inOwn, hx] at hv

/-- .. and while whatever they do not own is turned. -/
theorem Ring.past {O : List Nat} (h : Ring P kt kv kl ok w F b L M cap S) (hk : Kept O w w') (hO : ∀ g, g ∈ own b L M S → g ∉ O) : Ring P kt kv kl ok w' (Go.Proofs.Ytnjpdcoahojgbaa.inOwn F (own b L M S)) b L M cap S :=
  h.kept fun g hg => hk.block g (h.lt hg) (hO g hg)

theorem Ring.below (h : Ring P kt kv kl ok w F b L M cap S) (hk : Below w.heap.size w w') : Ring P kt kv kl ok w' (Go.Proofs.Ytnjpdcoahojgbaa.inOwn F (own b L M S)) b L M cap S :=
  h.kept fun g hg => hk.block g (h.lt hg)

theorem Ring.mapApart (h : Ring P kt kv kl ok w F b L M cap S) : ∀ o v, F M o ≠ some v := by
  intro o v hv
  obtain ⟨cs, T, fr, hc⟩ := h.holds.cells hv
  obtain ⟨es, cl, hm⟩ := h.map.isMap
  rw [hm] at hc
  simp at hc

/-- An item stands in one place at most. -/
theorem Ring.find (h : Ring P kt kv kl ok w F b L M cap S) {x : K} (hx : x ∈ S.flatten.map (·.1)) : ∃ S1 S2 l1 l2 a, S = S1 ++ (l1 ++ (x, a) :: l2) :: S2 := by
  obtain ⟨n, hn, rfl⟩ := List.mem_map.1 hx
  obtain ⟨ns, hm, hn2⟩ := List.mem_flatten.1 hn
  obtain ⟨S1, S2, rfl⟩ := List.append_of_mem hm
  obtain ⟨l1, l2, rfl⟩ := List.append_of_mem hn2
  exact ⟨S1, S2, l1, l2, n.2, rfl⟩

end
end Go.Proofs.Ytnjpdcoahojgbaa
