/- Package spread (landed): Sum. -/
import Derived.Test.YtfmihbiongnpnaaJDg
namespace Go.Proofs.Ytfmihbiongnpnaa
open Go.ChangeShapes Go.WideShapes Go.ChangeAt Go.RowKit Go.Deep
set_option linter.unusedVariables false
attribute [local go_sem] Oper.semAt_some

section
variable {L : List Int} {R : List JR} {a b : Int}
theorem items_loose (h : Loose L a R b) (h0 : 0 ≤ a) : itemsR R = (List.range (b - a).toNat).map fun k : Nat => ⟨a + (k : Nat), L.getD (a.toNat + k) 0⟩ := by
  induction R generalizing a with
  | nil =>
    have e : a = b := h
    subst e
    simp [itemsR]
  | cons r R ih =>
    obtain ⟨h1, h2, h3, h4⟩ := h
    have h5 := h4.le
    have e : (b - a).toNat = (r.hi - r.lo).toNat + (b - r.hi).toNat := by omega
    rw [e, List.range_add, List.map_append]
    have e1 : itemsR (r :: R) = itemsOf r ++ itemsR R := by unfold itemsR; rw [List.flatMap_cons]
    rw [e1, ih h4 (by omega)]
    congr 1
    · unfold itemsOf
      refine List.map_congr_left fun k hk => ?_
      have hk2 := List.mem_range.1 hk
      rw [h3 (a.toNat + k) (by omega) (by omega), h1]
    · rw [List.map_map]
      refine List.map_congr_left fun k hk => ?_
      show (⟨r.hi + (k : Nat), L.getD (r.hi.toNat + k) 0⟩ : JI) = ⟨a + (((r.hi - r.lo).toNat + k : Nat)), L.getD (a.toNat + ((r.hi - r.lo).toNat + k)) 0⟩
      rw [show a.toNat + ((r.hi - r.lo).toNat + k) = r.hi.toNat + k by omega, show a + (((r.hi - r.lo).toNat + k : Nat) : Int) = r.hi + (k : Nat) by omega]
theorem list_getD_range (L : List Int) : (List.range L.length).map (fun k => L.getD k 0) = L := by
  refine list_getD_ext (by rw [List.length_map, List.length_range]) fun i hi => ?_
  rw [List.length_map, List.length_range] at hi
  rw [List.getD_eq_getElem?_getD, List.getElem?_map, List.getElem?_range hi]
  rfl
theorem items_runs (L : List Int) : (itemsR (runsJ L)).map (·.n) = L := by
  rw [items_loose (runsJ_side L).loose (Int.le_refl _), List.map_map]
  have e : ((fun x : JI => x.n) ∘ fun k : Nat => (⟨(0 : Int) + (k : Nat), L.getD ((0 : Int).toNat + k) 0⟩ : JI)) = fun k => L.getD k 0 := by
    funext k
    show L.getD ((0 : Int).toNat + k) 0 = L.getD k 0
    rw [show (0 : Int).toNat + k = k by simp]
  rw [e, show ((L.length : Int) - 0).toNat = L.length by omega]
  exact list_getD_range L
theorem kpR_set {G : List Nat} {W : World} {B : Nat} {t : TypeId} {v v' : Value} (h : Boxed W B t v) (ht : t ≠ 95) (hG : ∀ k, k ∈ G → k ≠ B) : KpR G W (W.setCell ⟨B, 0, none⟩ v') :=
  ⟨fun k hk => heap_setCell_other W ⟨B, 0, none⟩ k v' (by first | exact hG k hk | exact (hG k hk).symm), fun k cs fr hk => by
    have hne : k ≠ B := fun e => by
      subst e
      have := (show W.heap[k]? = _ from h).symm.trans hk
      injection this with this
      injection this with _ this
      exact ht this
    exact (heap_setCell_other W ⟨B, 0, none⟩ k v' (by first | exact hne | exact hne.symm)).trans hk⟩
/-- The sum, as a machine adds. -/
def accW (xs : List JI) : Int := xs.foldl (fun s x => wrap64 (s + x.n)) 0
theorem accW_snoc (xs : List JI) (x : JI) : accW (xs ++ [x]) = wrap64 (accW xs + x.n) := by unfold accW; rw [List.foldl_append]; rfl
end

set_option maxRecDepth 100000 in
set_option maxHeartbeats 2000000 in
theorem sum_of {w : World} {x : Option Addr} {s : Option Addr} {c : Nat} {R : List JR} (hA : ∀ W, w.grownBy W none → Calls Try.prog 52 #[.pointer x] W fun e w' => e = .returned (.slice s R.length c) ∧ w' = W) (hrow0 : RunsC w (.slice s R.length c) R) (hle : R.length ≤ 4096)
    (hbd : ∀ r, r ∈ R → 0 ≤ r.lo ∧ r.lo ≤ r.hi ∧ r.hi ≤ 4096) : Calls Try.prog 41 #[.pointer x] w fun e w' => e = .returned (.int .i64 (accW (itemsR R))) ∧ w.grownBy w' none := by
  have ga := World.grownBy_alloc w (.cells #[.int .i64 0] 3) none
  have HA := Lib.hid (hA _ ga)
  have hrow := hrow0.grow ga
  have hold : ∀ k, (Value.slice s R.length c).ownBlock = some k → k < w.heap.size := fun k e => hrow0.lt e
  have bO := Boxed.new w 3 (.int .i64 0)
  have HRow := Lib.hid hrow
  have HBd := Lib.hid hbd
  have HOld := Lib.hid hold
  clear hrow0 hA hrow hbd hold
  refine (callsIn_wide (n := 9)).1 ?_
  refine callsIn_of_wp_marks Try.func41 rfl trivial ?_ rfl
  simp only [Try.ntmps41, List.size_toArray, List.length_cons, List.length_nil, Nat.reduceAdd, Nat.reduceSub, Array.replicate_succ, Array.replicate_zero, List.push_toArray, List.append_toArray, List.nil_append, List.cons_append]
  gi_wp2_with fail
  refine ⟨trivial, ?_⟩
  refine (callsIn_wide.2 HA.out).mono ?_
  rintro e w2 ⟨rfl, e2⟩
  subst w2
  gi_wp2_with fail
  refine ⟨trivial, ?_⟩
  refine (callsIn_wide.2 (counts_of _ _ _ _)).mono ?_
  rintro e w2 ⟨rfl, e2⟩
  subst w2
  gi_wp2_with fail
  have ga2 := World.grownBy_alloc (w.alloc (.cells #[.int .i64 0] 3)) (.cells #[.slice s R.length c] 96) none
  have hsz : ((w.alloc (.cells #[.int .i64 0] 3)).alloc (.cells #[.slice s R.length c] 96)).heap.size = w.heap.size + 2 := by simp
  have hG : ∀ g, (Value.slice s R.length c).ownBlock = some g → g ∈ (Value.slice s R.length c).ownBlock.toList := fun g e => by rw [e]; simp
  have hG2 : ∀ k, k ∈ (Value.slice s R.length c).ownBlock.toList → k < w.heap.size := fun k hk => HOld.out k (by simpa using hk)
  have hc9 : ((w.alloc (.cells #[.int .i64 0] 3)).alloc (.cells #[.slice s R.length c] 96)).cell? ⟨w.heap.size + 1, 0, none⟩ = some (.slice s R.length c) := by
    have := heap_alloc_new (w.alloc (.cells #[.int .i64 0] 3)) (.cells #[.slice s R.length c] 96)
    rw [World.size_alloc] at this
    rw [cell_of_row _ _ _ _ _ _ this]; rfl
  have hB9 := bO.alloc (.cells #[.slice s R.length c] 96)
  have hR9 := HRow.out.grow ga2
  have hg9 := grown_trans ga ga2
  generalize hw9 : (w.alloc (.cells #[.int .i64 0] 3)).alloc (.cells #[.slice s R.length c] 96 (0, 0)) = w9 at *
  refine wpIn_rangeFunc_ownG rfl (by omega) (gf := 66) (lb := #[.pointer (some ⟨w.heap.size + 1, 0, none⟩)]) rfl trivial (enters_of Try.func66 (by kernel_rfl) rfl)
    (counts1_stops 8 (by omega) (w.heap.size + 1) _ R hle HBd.out _ hG _ hc9 hR9) (fun h k => kpR_t h k) (fun W l o o' hl ho hc _ => kpR_b (B := w9.heap.size) (fun k hk => by have := hG2 k hk; omega) W l o o' hl ho hc) (Below.refl _ _) (fun _ => rfl)
    (fun pre W => Boxed W w.heap.size 3 (.int .i64 (accW pre)) ∧ w.grownBy W none)
    (fun c pre W => False)
    (OwnFrom.and (Own.from (boxed_own _ _ (fun pre => .int .i64 (accW pre))) _) (fun s A B row hs hg hr => grown_own hs hg fun x e => by have := (hr x e).1; omega))
    (fun c s A B row hs hg hr => hs)
    ⟨hB9, hg9⟩
    (fun (y : JI) => { tmps := #[.pointer x, undef, .int .i64 0, .pointer (some ⟨w.heap.size, 0, none⟩), undef, .int .i64 y.n, .pointer x, .slice s R.length c, .func (.func 66) #[] #[.pointer (some ⟨w.heap.size + 1, 0, none⟩)],   .int .i64 y.i, .int .i64 y.n, undef, undef, undef, undef], defers := [] }) ?assign ?body ?done ?stop
  case assign =>
    intro l x W K hK
    simp only [encI]
    gi_wp2
    exact hK
  case body =>
    rintro l pre x W ⟨hv, hg⟩ hlt
    have hc := hv.cell
    have hf := hv.frozen
    have HV := Lib.hid hv
    have HG := Lib.hid hg
    clear hv hg
    gi_wp2
    exact ⟨(KeepsOthers.setCell _ _ _).from _, kpR_set HV.out (by decide) (fun k hk e => by have := hG2 k hk; omega), by rw [accW_snoc]; exact HV.out.set _, grown_at HG.out (grown_set _ _ _ _) (Nat.le_refl _)⟩
  case done =>
    rintro D ys W hD rfl ⟨hv, hg⟩ hK
    have hc := hv.cell
    have HG := Lib.hid hg
    clear hv hg
    gi_wp2
    refine ⟨by simp, .inl ⟨_, _, rfl, run_takeDeferred hK, ?_⟩⟩
    refine ⟨_, results_tmp rfl _ _ _, rfl, grown_own HG.out (grownBy_putObj' W D _) fun x e => by cases e; omega⟩
  case stop =>
    intro D c pre W _ _ hx
    exact hx.elim

/-- The sum, without a wrap. -/
theorem accW_fold (xs : List JI) (a : Int) (B : Int) (h : ∀ x, x ∈ xs → 0 ≤ x.n ∧ x.n ≤ 1000000) (h0 : 0 ≤ a) (hB : a + 1000000 * xs.length ≤ 1000000000000) : xs.foldl (fun s x => wrap64 (s + x.n)) a = (xs.map (·.n)).foldl (· + ·) a := by
  induction xs generalizing a with
  | nil => rfl
  | cons x xs ih =>
    have hx := h x List.mem_cons_self
    simp only [List.length_cons] at hB
    simp only [List.foldl_cons, List.map_cons]
    have e : wrap64 (a + x.n) = a + x.n := by unfold wrap64; omega
    rw [e]
    exact ih (a + x.n) (fun y hy => h y (List.mem_cons_of_mem _ hy)) (by omega) (by omega)
theorem accW_runs {L : List Int} (hk : JOk L) : accW (itemsR (runsJ L)) = sumJ L := by
  have e := items_runs L
  have hl := hk.len
  have hm : ∀ x, x ∈ itemsR (runsJ L) → 0 ≤ x.n ∧ x.n ≤ 1000000 := fun x hx => by
    have : x.n ∈ L := by rw [← e]; exact List.mem_map.2 ⟨x, hx, rfl⟩
    exact ⟨hk.lo _ this, hk.hi _ this⟩
  have hlen : (itemsR (runsJ L)).length = L.length := by rw [← congrArg List.length e, List.length_map]
  unfold accW sumJ
  rw [accW_fold _ 0 0 hm (Int.le_refl _) (by rw [hlen]; omega), e]
theorem sp_sum {w : World} {p : Nat} {v : Value} {L : List Int} (h : SD w p v L) (hk : JOk L) : Calls Try.prog 41 #[.pointer (some ⟨p, 0, none⟩)] w fun e w' => e = .returned (.int .i64 (sumJ L)) ∧ w.grownBy w' none := by
  have hlo := (runsJ_side L).loose
  have hln := hk.len
  have hA := fun W (g : w.grownBy W none) => sp_all (h.grow g)
  have hrow := h.row
  obtain ⟨s, c, rfl, -⟩ := h.row.slice
  rw [← accW_runs hk]
  exact sum_of hA hrow (runs_le hk) fun r hr => by have := hlo.at hr; omega
end Go.Proofs.Ytfmihbiongnpnaa
