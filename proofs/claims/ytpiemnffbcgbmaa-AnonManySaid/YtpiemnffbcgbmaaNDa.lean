/- Package anon (landed): what a pool is; made, all, Len, Get. -/
import Derived.Test.YtpiemnffbcgbmaaNMap
import Derived.Test.YtpiemnffbcgbmaaNHc
import Derived.Test.YtpiemnffbcgbmaaNOk
namespace Go.Proofs.Ytpiemnffbcgbmaa
open Go.ChangeShapes Go.WideShapes Go.ChangeAt Go.RowKit Go.Deep
set_option linter.unusedVariables false

def kvI (x : Int) : Value := Value.int .i64 x
def klI (x : Int) : Lit := .int .i64 x
def okW (x : Int) : Prop := (Lit.int .i64 x).wf = true
theorem okW_of {x : Int} (h : okI x) : okW x := by
  have h1 := h.1
  have h2 := h.2
  unfold okW
  simp [Lit.wf, IntKind.min, IntKind.max, IntKind.signed, IntKind.bits]
  omega
theorem lawsN : KeyLaws Try.prog 3 58 72 kvI klI okW where
  keyed := Maps.int_keyed Try.underlying3
  key x h := Maps.keyOf_int_mk Try.underlying3 h
  inj x y h := by simpa [klI] using h
  und := Try.underlying58
  zero := fun w => by kernel_rfl

/-- The landed pool: block p, the map in block M, the heap of the free numbers, the boxes of those that are there. -/
structure PA (w : World) (p most M : Nat) (hv : Value) (zs : List Int) (N : List (Int × Nat)) (L : List AnV) : Prop where
  free : FreeS w p (.map (some M)) hv zs
  map : MapOf Try.prog 3 klI w M N
  ids : (N.map (·.1)).Perm (idsN L)
  box : ∀ n, n ∈ N → ∃ x, getN L n.1 = some x ∧ AB w n.2 36 x
  dist : (N.map (·.2)).Nodup
  nums : zs.Perm (freeTo L most)
  good : GoodN most L
def blkP (p M : Nat) (hv : Value) (N : List (Int × Nat)) : List Nat := p :: M :: (hv.ownBlock.toList ++ N.map (·.2))
section
variable {w w' w2 : World} {p most M : Nat} {hv : Value} {zs : List Int} {N : List (Int × Nat)} {L : List AnV}
theorem mem_blkP {b : Nat} : b ∈ blkP p M hv N ↔ b = p ∨ b = M ∨ hv.ownBlock = some b ∨ ∃ n, n ∈ N ∧ n.2 = b := by
  unfold blkP
  rw [List.mem_cons, List.mem_cons, List.mem_append, List.mem_map]
  simp
theorem PA.lt (h : PA w p most M hv zs N L) : ∀ b, b ∈ blkP p M hv N → b < w.heap.size := fun b hb => by
  rcases mem_blkP.1 hb with rfl | rfl | e | ⟨n, hn, rfl⟩
  · exact h.free.plt
  · exact h.map.lt
  · exact (OwnOf.lt h.free.own e).2
  · obtain ⟨x, _, hx⟩ := h.box n hn
    exact hx.lt
theorem PA.kept (h : PA w p most M hv zs N L) (hb : ∀ b, b ∈ blkP p M hv N → w'.heap[b]? = w.heap[b]?) : PA w' p most M hv zs N L where
  free := h.free.kept fun b hm => hb b (by
    unfold blkH at hm
    rcases List.mem_cons.1 hm with rfl | hm
    · exact mem_blkP.2 (.inl rfl)
    · exact mem_blkP.2 (.inr (.inr (.inl (by simpa using hm)))))
  map := h.map.kept (hb M (mem_blkP.2 (.inr (.inl rfl))))
  ids := h.ids
  box := fun n hn => by
    obtain ⟨x, h1, h2⟩ := h.box n hn
    exact ⟨x, h1, h2.kept (hb n.2 (mem_blkP.2 (.inr (.inr (.inr ⟨n, hn, rfl⟩)))))⟩
  dist := h.dist
  nums := h.nums
  good := h.good
theorem PA.grow (h : PA w p most M hv zs N L) (g : w.grownBy w' none) : PA w' p most M hv zs N L := h.kept fun b hb => g.block b (h.lt b hb) (by simp)
theorem PA.at (h : PA w p most M hv zs N L) : w.cell? ⟨p, 0, none⟩ = some (.map (some M)) ∧ w.cell? ⟨p, 1, none⟩ = some hv := h.free.at
theorem PA.nodup (h : PA w p most M hv zs N L) : (N.map (·.1)).Nodup := h.ids.nodup_iff.2 (ids_nodup _ _)
theorem PA.nlen (h : PA w p most M hv zs N L) : N.length = (idsN L).length := by rw [← h.ids.length_eq, List.length_map]
theorem PA.zlen (h : PA w p most M hv zs N L) : zs.length ≤ 4096 ∧ N.length ≤ 4096 := by
  have h1 := ids_free L most
  have h2 := h.nums.length_eq
  have h3 := h.good.most
  have h4 := ids_le h.good
  have h5 := h.nlen
  omega
/-- Numbers that are there. -/
theorem PA.there (h : PA w p most M hv zs N L) {i : Nat} (hl : liveB L i = true) : ∃ b, ((i : Int) + 1, b) ∈ N := by
  have h1 : (i : Int) + 1 ∈ idsN L := mem_idsTo.2 ⟨i, live_lt hl, hl, rfl⟩
  obtain ⟨n, hn, e⟩ := List.mem_map.1 (h.ids.mem_iff.2 h1)
  exact ⟨n.2, by rw [← e]; exact hn⟩
theorem PA.not (h : PA w p most M hv zs N L) {id : Int} (hno : id ∉ idsN L) : ∀ n, n ∈ N → n.1 ≠ id := fun n hn e => hno (h.ids.mem_iff.1 (List.mem_map.2 ⟨n, hn, e⟩))
theorem PA.at_box (h : PA w p most M hv zs N L) {id : Int} {b : Nat} {x : AnV} (hn : (id, b) ∈ N) (hx : getN L id = some x) : AB w b 36 x := by
  obtain ⟨y, h1, h2⟩ := h.box _ hn
  simp only at h1
  rw [hx] at h1
  cases h1
  exact h2
def DN (w : World) (p most : Nat) (L : List AnV) (O : List Nat) : Prop := ∃ M hv zs N, PA w p most M hv zs N L ∧ O = blkP p M hv N
theorem dnOk : StOkN DN := ⟨fun ⟨M, hv, zs, N, h, e⟩ => by rw [e]; exact h.lt, fun ⟨M, hv, zs, N, h, e⟩ hs hb => ⟨M, hv, zs, N, h.kept (by rw [e] at hb; exact hb), e⟩, fun ⟨M, hv, zs, N, h, e⟩ => h.good⟩
theorem PA.same (h : PA w p most M hv zs N L) (g : w.grownBy w' none) : AL DN w w' p most (blkP p M hv N) L := ⟨blkP p M hv N, ⟨M, hv, zs, N, h.grow g, rfl⟩, Turn.grown g, fun b hb => .inl hb⟩

theorem neq_pool_nil (w : World) (a : Addr) : (binOp .neq 23 (.pointer (some a)) (.pointer none)).run Try.prog w = .ok (.bool true) w := by go_simp
theorem eql_pool_nil (w : World) (a : Addr) : (binOp .eql 23 (.pointer (some a)) (.pointer none)).run Try.prog w = .ok (.bool false) w := by go_simp
theorem neq_map_nil (w : World) (b : Nat) : (binOp .neq 58 (.map (some b)) (.map none)).run Try.prog w = .ok (.bool true) w := by
  have h1 : ∀ d : Nat, (Op.equalIn (d + 1) 58 (.map (some b)) (.map none)).run Try.prog w = .ok false w := fun d => by
    simp [Op.equalIn, run_underlying Try.underlying58]
  simp only [binOp]
  simp [Op.equal, Op.maxDepth, h1 9999]

theorem pa_made (h : PA w p most M hv zs N L) : Calls Try.prog 27 #[.pointer (some ⟨p, 0, none⟩)] w fun e w' => e = .returned (.bool true) ∧ w' = w := by
  have c0 := h.at.1
  have hq := neq_pool_nil
  have hq2 := neq_map_nil
  clear h
  go_enter Try.func27, Try.ntmps27
  go_wp2_with fail
  go_ret
  exact ⟨rfl, rfl⟩
theorem pa_all (h : PA w p most M hv zs N L) : Calls Try.prog 32 #[.pointer (some ⟨p, 0, none⟩)] w fun e w' => e = .returned (.map (some M)) ∧ w' = w := by
  have c0 := h.at.1
  have hq := eql_pool_nil
  clear h
  go_enter Try.func32, Try.ntmps32
  go_wp2_with fail
  go_ret
  exact ⟨rfl, rfl⟩
theorem pa_len (h : PA w p most M hv zs N L) : Calls Try.prog 25 #[.pointer (some ⟨p, 0, none⟩)] w fun e w' => e = .returned (.int .i64 (idsN L).length) ∧ w.grownBy w' none := by
  have HA := Lib.hid (pa_all h)
  have hlen := fun ty => h.map.len lawsN ty
  rw [h.nlen] at hlen
  clear h
  generalize ((idsN L).length : Int) = n at *
  go_enter Try.func25, Try.ntmps25
  go_wp2_with fail
  refine HA.out.mono ?_
  rintro e w2 ⟨rfl, e2⟩
  subst w2
  go_wp2_with fail
  go_ret
  exact ⟨rfl, grown_refl _ _⟩

set_option maxHeartbeats 1000000 in
theorem pa_get (h : PA w p most M hv zs N L) (id : Int) (hid : okI id) : Calls Try.prog 18 #[.pointer (some ⟨p, 0, none⟩), .int .i64 id] w fun e w' => e = .returned (getVN (getN L id)) ∧ w.grownBy w' none := by
  have ga := World.grownBy_alloc w (.cells #[.int .i64 0, .int .i64 0, .int .i64 0] 36 (0, 0)) none
  have hA := h.grow ga
  have hB := AB.new w 36 zeroN
  unfold zeroN at hB
  simp only at hB
  generalize hwA : w.alloc (.cells #[.int .i64 0, .int .i64 0, .int .i64 0] 36 (0, 0)) = wA at *
  have HAll := Lib.hid (pa_all hA)
  obtain ⟨b0, b1, b2⟩ := hB.at
  have z0 := hB.frozen 0
  have z1 := hB.frozen 1
  have z2 := hB.frozen 2
  have HB := Lib.hid hB
  have HG := Lib.hid ga
  rcases get_cases L id with ⟨h0, hno⟩ | ⟨i, x, rfl, h1, h2, h3, h4, h5, h6⟩
  · rw [h0]
    have hk : (Instr.lookup 58 (.map (some M)) (.int .i64 id) true).run Try.prog wA = .ok (.tuple #[.pointer none, .bool false]) wA := hA.map.ok_no lawsN (hA.not hno) (okW_of hid)
    unfold getVN anAgg zeroN
    simp only
    clear ga hA hB h hno h0
    go_enter Try.func18, Try.ntmps18
    go_wp2_with fail
    refine HAll.out.mono ?_
    rintro e w2 ⟨rfl, e2⟩
    subst w2
    go_wp2_with fail
    refine bodyPost_ret (results_pair_tmp rfl _ _ w.heap.size _ #[.int .i64 0, .int .i64 0, .int .i64 0] (0, 0) _ rfl (heap_three _ _ _ _ _ _ HB.out) Try.underlying36 (by kernel_rfl) (by kernel_rfl)) rfl ?_
    exact ⟨rfl, grown_at HG.out (grown_three _ _ _ _ _ _) (Nat.le_refl _)⟩
  · rw [h4]
    obtain ⟨b, hb⟩ := hA.there h5
    have hk : (Instr.lookup 58 (.map (some M)) (.int .i64 ((i : Int) + 1)) true).run Try.prog wA = .ok (.tuple #[.pointer (some ⟨b, 0, none⟩), .bool true]) wA := hA.map.ok_yes lawsN hA.nodup hb (okW_of hid)
    obtain ⟨x0, x1, x2⟩ := (hA.at_box hb h4).at
    obtain ⟨xr, xf, xs⟩ := x
    simp only at *
    unfold getVN anAgg
    simp only
    clear ga hA hB h h2 h3 h4 h5 h6 hid hb
    go_enter Try.func18, Try.ntmps18
    go_wp2_with fail
    refine HAll.out.mono ?_
    rintro e w2 ⟨rfl, e2⟩
    subst w2
    go_wp2_with fail
    refine bodyPost_ret (results_pair_tmp rfl _ _ w.heap.size _ #[.int .i64 xr, .int .i64 xf, .int .i64 xs] (0, 0) _ rfl (heap_three _ _ _ _ _ _ HB.out) Try.underlying36 (by kernel_rfl) (by kernel_rfl)) rfl ?_
    exact ⟨rfl, grown_at HG.out (grown_three _ _ _ _ _ _) (Nat.le_refl _)⟩
end
end Go.Proofs.Ytpiemnffbcgbmaa
