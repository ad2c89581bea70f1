/- Rows of items in places, as a ghost of memory has them: what comes of it where an item comes or goes; over any program. -/
import Derived.Test.YtnjpdcoahojgbaaRMem
namespace Go.Proofs.Ytnjpdcoahojgbaa
open Go.RowKit
set_option linter.unusedVariables false

def i64 (n : Int) : Value := .int .i64 n

section
variable {K : Type} {kv : K → Value}

def nd (n : K × Nat) : Pl := (n.2, 0)
def endOf (L r : Nat) : Pl := (L, r * 5)
def ringOf (L r : Nat) (ns : List (K × Nat)) : List Pl := endOf L r :: (ns.map nd ++ [endOf L r])

structure RingF (kv : K → Value) (F : Gm) (b L M cap : Nat) (S : List (List (K × Nat))) : Prop where
  lines : F b 0 = some (.slice (some ⟨L, 0, none⟩) S.length cap)
  wh : F b 1 = some (.map (some M))
  items : F b 2 = some (.int .i64 S.flatten.length)
  cnt : ∀ (r : Nat) (ns : List (K × Nat)), S[r]? = some ns → F L (r * 5 + 4) = some (.int .i64 ns.length)
  item : ∀ (r : Nat) (ns : List (K × Nat)) (n : K × Nat), S[r]? = some ns → n ∈ ns → F n.2 0 = some (kv n.1) ∧ F n.2 1 = some (.int .i64 r)
  chain : ∀ (r : Nat) (ns : List (K × Nat)), S[r]? = some ns → Ch (Lk F) (ringOf L r ns)
  blocks : (b :: L :: S.flatten.map (·.2)).Nodup

theorem at_mid {α : Type} (S1 S2 : List α) (x : α) : (S1 ++ x :: S2)[S1.length]? = some x := by simp
theorem at_other {α : Type} {S1 S2 : List α} {x y : α} {i : Nat} (h : i ≠ S1.length) : (S1 ++ x :: S2)[i]? = (S1 ++ y :: S2)[i]? := by
  rw [List.getElem?_append, List.getElem?_append]
  split
  · rfl
  · have : i - S1.length ≠ 0 := by omega
    obtain ⟨k, hk⟩ := Nat.exists_eq_succ_of_ne_zero this
    rw [hk]
    rfl

theorem mem_flat_of {α : Type} {S : List (List α)} {r : Nat} {ns : List α} {n : α} (h : S[r]? = some ns) (hn : n ∈ ns) : n ∈ S.flatten :=
  List.mem_flatten.2 ⟨ns, List.mem_of_getElem? h, hn⟩

theorem ring_nodup {L r : Nat} {ns : List (K × Nat)} (h : (L :: ns.map (·.2)).Nodup) : (endOf L r :: ns.map nd).Nodup := by
  obtain ⟨h1, h2⟩ := List.nodup_cons.1 h
  refine List.nodup_cons.2 ⟨?_, ?_⟩
  · intro hm
    obtain ⟨n, hn, he⟩ := List.mem_map.1 hm
    exact h1 (List.mem_map.2 ⟨n, hn, (congrArg Prod.fst he)⟩)
  · have e : ns.map nd = (ns.map (·.2)).map (fun a => ((a, 0) : Pl)) := by simp [nd]
    rw [e]
    exact List.Pairwise.map _ (fun a b hab e => hab (congrArg Prod.fst e)) h2

theorem al_ring {L r : Nat} {ns : List (K × Nat)} {p : Pl} (h : p ∈ ringOf L r ns) : Al p := by
  unfold ringOf at h
  simp only [List.mem_cons, List.mem_append, List.mem_map, List.not_mem_nil, or_false] at h
  unfold Al
  rcases h with rfl | ⟨n, _, rfl⟩ | rfl
  · simp [endOf]
  · simp [nd]
  · simp [endOf]

theorem block_ring {L r : Nat} {ns : List (K × Nat)} {p : Pl} (h : p ∈ ringOf L r ns) : p = endOf L r ∨ ∃ n, n ∈ ns ∧ p = nd n := by
  unfold ringOf at h
  simp only [List.mem_cons, List.mem_append, List.mem_map, List.not_mem_nil, or_false] at h
  rcases h with rfl | ⟨n, h, rfl⟩ | rfl
  · exact .inl rfl
  · exact .inr ⟨n, h, rfl⟩
  · exact .inl rfl

/-- Links stay where cells of other kinds are written. -/
theorem ch_beside {G : Gm} {l : List Pl} {L o b : Nat} {u v : Value} (h : Ch (Lk G) l) (hl : ∀ a, a ∈ l → Al a ∧ a.1 ≠ b) : Ch (Lk (upd (upd G L (o * 5 + 4) u) b 2 v)) l :=
  h.mono fun x y hx hy hxy => by
    have mx := hl x (List.dropLast_subset l hx)
    have my := hl y (List.mem_of_mem_tail hy)
    unfold Al at mx my
    exact hxy.agree (by rw [upd_other (by omega), upd_other (by omega)]) (by rw [upd_other (by omega), upd_other (by omega)])

section
variable {F : Gm} {b L M cap : Nat} {S : List (List (K × Nat))}

theorem RingF.bL (h : RingF kv F b L M cap S) : b ≠ L := by
  have := (List.nodup_cons.1 h.blocks).1
  intro e
  exact this (by simp [e])
theorem RingF.nb (h : RingF kv F b L M cap S) {n : K × Nat} (hn : n ∈ S.flatten) : n.2 ≠ b := by
  have := (List.nodup_cons.1 h.blocks).1
  intro e
  exact this (List.mem_cons_of_mem _ (e ▸ List.mem_map.2 ⟨n, hn, rfl⟩))
theorem RingF.nL (h : RingF kv F b L M cap S) {n : K × Nat} (hn : n ∈ S.flatten) : n.2 ≠ L := by
  have := (List.nodup_cons.1 (List.nodup_cons.1 h.blocks).2).1
  intro e
  exact this (e ▸ List.mem_map.2 ⟨n, hn, rfl⟩)
theorem RingF.nn (h : RingF kv F b L M cap S) : (S.flatten.map (·.2)).Nodup := (List.nodup_cons.1 (List.nodup_cons.1 h.blocks).2).2

/-- A row's own places: none of another row's. -/
theorem RingF.apart {S1 S2 : List (List (K × Nat))} {row : List (K × Nat)} (h : RingF kv F b L M cap (S1 ++ row :: S2)) {r : Nat} {ns : List (K × Nat)} (hr : (S1 ++ row :: S2)[r]? = some ns) (hne : r ≠ S1.length)
    {p : Pl} (hp : p ∈ ringOf L S1.length row) : p ∉ ringOf L r ns := by
  have hnn := h.nn
  have hmem : ∀ n, n ∈ ns → n ∈ S1.flatten ++ S2.flatten := by
    intro n hn
    have : ns ∈ S1 ++ S2 := by
      rw [List.getElem?_append] at hr
      split at hr
      · exact List.mem_append_left _ (List.mem_of_getElem? hr)
      · have : r - S1.length ≠ 0 := by omega
        obtain ⟨k, hk⟩ := Nat.exists_eq_succ_of_ne_zero this
        rw [hk] at hr
        exact List.mem_append_right _ (List.mem_of_getElem? hr)
    rw [← List.flatten_append]
    exact List.mem_flatten.2 ⟨ns, this, hn⟩
  intro hp2
  rcases block_ring hp with rfl | ⟨n, hn, rfl⟩
  · rcases block_ring hp2 with e | ⟨m, hm, e⟩
    · have := congrArg Prod.snd e
      simp [endOf] at this
      omega
    · have hL := h.nL (mem_flat_of hr hm)
      exact hL (congrArg Prod.fst e).symm
  · rcases block_ring hp2 with e | ⟨m, hm, e⟩
    · have hL := h.nL (n := n) (by simp [hn])
      exact hL (congrArg Prod.fst e)
    · have e2 : n.2 = m.2 := congrArg Prod.fst e
      have h2 := hmem m hm
      simp only [List.flatten_append, List.flatten_cons, List.map_append] at hnn
      have k1 := List.nodup_append.1 hnn
      have k2 := List.nodup_append.1 k1.2.1
      rcases List.mem_append.1 h2 with q | q
      · exact k1.2.2 m.2 (List.mem_map.2 ⟨m, q, rfl⟩) n.2 (by simp; exact .inl ⟨n.1, hn⟩) e2.symm
      · exact k2.2.2 n.2 (List.mem_map.2 ⟨n, hn, rfl⟩) m.2 (List.mem_map.2 ⟨m, q, rfl⟩) e2

/-- The row's own blocks. -/
theorem RingF.rowNodup {S1 S2 : List (List (K × Nat))} {row : List (K × Nat)} (h : RingF kv F b L M cap (S1 ++ row :: S2)) : (L :: row.map (·.2)).Nodup := by
  have := (List.nodup_cons.1 h.blocks).2
  refine this.sublist ?_
  simp

/-- An item leaves. -/
theorem RingF.cut {S1 S2 : List (List (K × Nat))} {l1 l2 : List (K × Nat)} {x : K} {a : Nat} (h : RingF kv F b L M cap (S1 ++ (l1 ++ (x, a) :: l2) :: S2)) :
    ∃ p q : Pl, F a 2 = some (ptr p) ∧ F a 3 = some (ptr q) ∧ F p.1 (p.2 + 3) = some (ptr (a, 0)) ∧ F q.1 (q.2 + 2) = some (ptr (a, 0)) ∧ F a 0 = some (kv x) ∧ F a 1 = some (.int .i64 S1.length) ∧
      F L (S1.length * 5 + 4) = some (.int .i64 (l1 ++ (x, a) :: l2).length) ∧ p.1 ≠ b ∧ q.1 ≠ b ∧ p.1 ≠ a ∧ q.1 ≠ a ∧ Al p ∧ Al q ∧
      (p.1 = L ∨ p.1 ∈ (S1 ++ (l1 ++ (x, a) :: l2) :: S2).flatten.map (·.2)) ∧ (q.1 = L ∨ q.1 ∈ (S1 ++ (l1 ++ (x, a) :: l2) :: S2).flatten.map (·.2)) ∧
      RingF kv (upd (upd (laid F p q (ptr q) (ptr p)) L (S1.length * 5 + 4) (.int .i64 (l1 ++ l2).length)) b 2 (.int .i64 (S1 ++ (l1 ++ l2) :: S2).flatten.length)) b L M cap (S1 ++ (l1 ++ l2) :: S2) := by
  have hc := h.chain S1.length _ (at_mid _ _ _)
  have hcn := h.cnt S1.length _ (at_mid _ _ _)
  have hit := h.item S1.length _ (x, a) (at_mid _ _ _) (by simp)
  have hrn := h.rowNodup
  have hbL := h.bL
  have hab : a ≠ b := h.nb (n := (x, a)) (by simp)
  have haL : a ≠ L := h.nL (n := (x, a)) (by simp)
  unfold ringOf at hc
  rw [List.map_append, List.map_cons, List.append_assoc, List.cons_append] at hc
  have hsub : (L :: (l1 ++ l2).map (·.2)).Nodup := by
    refine hrn.sublist ?_
    simp
  have hnd := ring_nodup (r := S1.length) hsub
  rw [List.map_append] at hnd
  obtain ⟨p, q, mp, mq, alp, alq, lpx, lxq, k⟩ := ring_cut hc hnd (by
    intro y hy
    refine al_ring (L := L) (r := S1.length) (ns := l1 ++ l2) ?_
    unfold ringOf
    rw [List.map_append]
    rcases List.mem_cons.1 hy with r | r
    · simp [r]
    · exact List.mem_cons_of_mem _ (List.mem_append_left _ r))
  have hap : a ∉ l1.map (·.2) ∧ a ∉ l2.map (·.2) := by
    have := (List.nodup_cons.1 hrn).2
    rw [List.map_append, List.map_cons] at this
    have k1 := List.nodup_append.1 this
    refine ⟨fun m => k1.2.2 a m a (by simp) rfl, (List.nodup_cons.1 k1.2.1).1⟩
  have hpr : p ∈ ringOf L S1.length (l1 ++ (x, a) :: l2) := by
    unfold ringOf
    rcases List.mem_cons.1 mp with r | r
    · simp [r]
    · simp only [List.map_append]; exact List.mem_cons_of_mem _ (List.mem_append_left _ (List.mem_append_left _ r))
  have hqr : q ∈ ringOf L S1.length (l1 ++ (x, a) :: l2) := by
    unfold ringOf
    rcases List.mem_append.1 mq with r | r
    · simp only [List.map_append, List.map_cons]; exact List.mem_cons_of_mem _ (List.mem_append_left _ (List.mem_append_right _ (List.mem_cons_of_mem _ r)))
    · simp at r; simp [r]
  have blk : ∀ y, y ∈ ringOf L S1.length (l1 ++ (x, a) :: l2) → y.1 ≠ b ∧ (y.1 = L ∨ y.1 ∈ (S1 ++ (l1 ++ (x, a) :: l2) :: S2).flatten.map (·.2)) := by
    intro y hy
    rcases block_ring hy with rfl | ⟨n, hn, rfl⟩
    · exact ⟨fun e => hbL e.symm, .inl rfl⟩
    · exact ⟨h.nb (mem_flat_of (at_mid _ _ _) hn), .inr (List.mem_map.2 ⟨n, mem_flat_of (at_mid _ _ _) hn, rfl⟩)⟩
  have pa : p.1 ≠ a := by
    rcases List.mem_cons.1 mp with r | r
    · rw [r]; exact fun e => haL e.symm
    · obtain ⟨n, hn, rfl⟩ := List.mem_map.1 r
      intro e
      exact hap.1 (List.mem_map.2 ⟨n, hn, e⟩)
  have qa : q.1 ≠ a := by
    rcases List.mem_append.1 mq with r | r
    · obtain ⟨n, hn, rfl⟩ := List.mem_map.1 r
      intro e
      exact hap.2 (List.mem_map.2 ⟨n, hn, e⟩)
    · simp at r; rw [r]; exact fun e => haL e.symm
  have pb := (blk p hpr).1
  have qb := (blk q hqr).1
  have sub : ∀ (r : Nat) (ns : List (K × Nat)) (n : K × Nat), (S1 ++ (l1 ++ l2) :: S2)[r]? = some ns → n ∈ ns → ∃ ms, (S1 ++ (l1 ++ (x, a) :: l2) :: S2)[r]? = some ms ∧ n ∈ ms := by
    intro r ns n hr hn
    by_cases e : r = S1.length
    · subst e
      rw [at_mid] at hr
      cases hr
      exact ⟨_, at_mid _ _ _, by rcases List.mem_append.1 hn with q | q; simp [q]; simp [q]⟩
    · exact ⟨ns, (at_other e).trans hr, hn⟩
  refine ⟨p, q, lpx.2, lxq.1, lpx.1, lxq.2, hit.1, hit.2, hcn, pb, qb, pa, qa, alp, alq, (blk p hpr).2, (blk q hqr).2, ?_⟩
  constructor
  · rw [upd_other (by omega), upd_other (by omega), laid_far (Ne.symm pb) (Ne.symm qb), h.lines]
    simp
  · rw [upd_other (by omega), upd_other (by omega), laid_far (Ne.symm pb) (Ne.symm qb), h.wh]
  · rw [upd_same]
  · intro r ns hr
    by_cases e : r = S1.length
    · subst e
      rw [at_mid] at hr
      cases hr
      rw [upd_other (by omega), upd_same]
    · rw [upd_other (by omega), upd_other (by omega), laid_else alp alq (by omega) (by omega)]
      exact h.cnt r ns ((at_other e).trans hr)
  · intro r ns n hr hn
    obtain ⟨ms, hms, hn2⟩ := sub r ns n hr hn
    have n1 := h.nb (mem_flat_of hms hn2)
    have n2 := h.nL (mem_flat_of hms hn2)
    rw [upd_other (by omega), upd_other (by omega), laid_else alp alq (by omega) (by omega), upd_other (by omega), upd_other (by omega), laid_else alp alq (by omega) (by omega)]
    exact h.item r ms n hms hn2
  · intro r ns hr
    have hall : ∀ y, y ∈ ringOf L r ns → Al y ∧ y.1 ≠ b := by
      intro y hy
      refine ⟨al_ring hy, ?_⟩
      rcases block_ring hy with rfl | ⟨n, hn, rfl⟩
      · exact fun e => hbL e.symm
      · obtain ⟨ms, hms, hn2⟩ := sub r ns n hr hn
        exact h.nb (mem_flat_of hms hn2)
    refine ch_beside ?_ hall
    by_cases e : r = S1.length
    · subst e
      rw [at_mid] at hr
      cases hr
      unfold ringOf
      rw [List.map_append, List.append_assoc]
      exact k
    · have hr' := (at_other (x := l1 ++ (x, a) :: l2) e).trans hr
      exact ch_far (h.chain r ns hr') alp alq (fun y hy => al_ring hy) (h.apart hr' e hpr) (h.apart hr' e hqr)
  · refine h.blocks.sublist ?_
    simp

/-- An item comes, into a new place between two. -/
theorem RingF.put {S1 S2 : List (List (K × Nat))} {l1 l2 : List (K × Nat)} {x : K} {a : Nat} {A B : List Pl} {p q : Pl} (h : RingF kv F b L M cap (S1 ++ (l1 ++ l2) :: S2))
    (hA : endOf L S1.length :: l1.map nd = A ++ [p]) (hB : l2.map nd ++ [endOf L S1.length] = q :: B) (ha : a ∉ b :: L :: (S1 ++ (l1 ++ l2) :: S2).flatten.map (·.2))
    {G : Gm} (hG : ∀ x y, x ≠ a → G x y = F x y) (g0 : G a 0 = some (kv x)) (g1 : G a 1 = some (.int .i64 S1.length)) (g2 : G a 2 = some (ptr p)) (g3 : G a 3 = some (ptr q)) :
    F p.1 (p.2 + 3) = some (ptr q) ∧ F q.1 (q.2 + 2) = some (ptr p) ∧ F L (S1.length * 5 + 4) = some (.int .i64 (l1 ++ l2).length) ∧ p.1 ≠ b ∧ q.1 ≠ b ∧ p.1 ≠ a ∧ q.1 ≠ a ∧ Al p ∧ Al q ∧
      (p.1 = L ∨ p.1 ∈ (S1 ++ (l1 ++ l2) :: S2).flatten.map (·.2)) ∧ (q.1 = L ∨ q.1 ∈ (S1 ++ (l1 ++ l2) :: S2).flatten.map (·.2)) ∧
      RingF kv (upd (upd (laid G p q (ptr (a, 0)) (ptr (a, 0))) L (S1.length * 5 + 4) (.int .i64 (l1 ++ (x, a) :: l2).length)) b 2 (.int .i64 (S1 ++ (l1 ++ (x, a) :: l2) :: S2).flatten.length)) b L M cap (S1 ++ (l1 ++ (x, a) :: l2) :: S2) := by
  have hc := h.chain S1.length _ (at_mid _ _ _)
  have hcn := h.cnt S1.length _ (at_mid _ _ _)
  have hrn := h.rowNodup
  have hbL := h.bL
  have hab : a ≠ b := by intro e; exact ha (by simp [e])
  have haL : a ≠ L := by intro e; exact ha (by simp [e])
  have han : a ∉ (S1 ++ (l1 ++ l2) :: S2).flatten.map (·.2) := fun m => ha (List.mem_cons_of_mem _ (List.mem_cons_of_mem _ m))
  unfold ringOf at hc
  rw [List.map_append, List.append_assoc] at hc
  have hnd := ring_nodup (r := S1.length) hrn
  rw [List.map_append] at hnd
  have mp : p ∈ endOf L S1.length :: l1.map nd := by rw [hA]; simp
  have mq : q ∈ l2.map nd ++ [endOf L S1.length] := by rw [hB]; simp
  have hpr : p ∈ ringOf L S1.length (l1 ++ l2) := by
    unfold ringOf
    rcases List.mem_cons.1 mp with r | r
    · simp [r]
    · simp only [List.map_append]; exact List.mem_cons_of_mem _ (List.mem_append_left _ (List.mem_append_left _ r))
  have hqr : q ∈ ringOf L S1.length (l1 ++ l2) := by
    unfold ringOf
    rcases List.mem_append.1 mq with r | r
    · simp only [List.map_append]; exact List.mem_cons_of_mem _ (List.mem_append_left _ (List.mem_append_right _ r))
    · simp at r; simp [r]
  have blk : ∀ y, y ∈ ringOf L S1.length (l1 ++ l2) → y.1 ≠ b ∧ y.1 ≠ a ∧ (y.1 = L ∨ y.1 ∈ (S1 ++ (l1 ++ l2) :: S2).flatten.map (·.2)) := by
    intro y hy
    rcases block_ring hy with rfl | ⟨n, hn, rfl⟩
    · exact ⟨fun e => hbL e.symm, fun e => haL e.symm, .inl rfl⟩
    · have m : n.2 ∈ (S1 ++ (l1 ++ l2) :: S2).flatten.map (·.2) := List.mem_map.2 ⟨n, mem_flat_of (at_mid _ _ _) hn, rfl⟩
      exact ⟨h.nb (mem_flat_of (at_mid _ _ _) hn), fun e => han (e ▸ m), .inr m⟩
  have pb := blk p hpr
  have qb := blk q hqr
  have chG : ∀ {l : List Pl}, Ch (Lk F) l → (∀ y, y ∈ l → y.1 ≠ a) → Ch (Lk G) l := fun hl hy =>
    hl.mono fun u v hu hv huv => huv.agree (hG _ _ (hy u (List.dropLast_subset _ hu))) (hG _ _ (hy v (List.mem_of_mem_tail hv)))
  have hcG := chG hc (by
    intro y hy
    refine (blk y ?_).2.1
    unfold ringOf
    rw [List.map_append, List.append_assoc]
    exact hy)
  obtain ⟨alp, alq, lpq, k⟩ := ring_put (x := (a, 0)) hA hB hcG hnd (by
    intro y hy
    refine al_ring (L := L) (r := S1.length) (ns := l1 ++ l2) ?_
    unfold ringOf
    rw [List.map_append]
    rcases List.mem_cons.1 hy with r | r
    · simp [r]
    · exact List.mem_cons_of_mem _ (List.mem_append_left _ r)) (by simp [Al]) (fun e => pb.2.1 (congrArg Prod.fst e).symm) (fun e => qb.2.1 (congrArg Prod.fst e).symm) g2 g3
  have lpqF : Lk F p q := lpq.agree (hG _ _ pb.2.1).symm (hG _ _ qb.2.1).symm
  refine ⟨lpqF.1, lpqF.2, hcn, pb.1, qb.1, pb.2.1, qb.2.1, alp, alq, pb.2.2, qb.2.2, ?_⟩
  constructor
  · rw [upd_other (by omega), upd_other (by omega), laid_far (Ne.symm pb.1) (Ne.symm qb.1), hG _ _ (Ne.symm hab), h.lines]
    simp
  · rw [upd_other (by omega), upd_other (by omega), laid_far (Ne.symm pb.1) (Ne.symm qb.1), hG _ _ (Ne.symm hab), h.wh]
  · rw [upd_same]
  · intro r ns hr
    by_cases e : r = S1.length
    · subst e
      rw [at_mid] at hr
      cases hr
      rw [upd_other (by omega), upd_same]
    · rw [upd_other (by omega), upd_other (by omega), laid_else alp alq (by omega) (by omega), hG _ _ (Ne.symm haL)]
      exact h.cnt r ns ((at_other e).trans hr)
  · intro r ns n hr hn
    have key : ∀ m, (S1 ++ (l1 ++ l2) :: S2)[r]? = some m → n ∈ m → upd (upd (laid G p q (ptr (a, 0)) (ptr (a, 0))) L (S1.length * 5 + 4) (.int .i64 (l1 ++ (x, a) :: l2).length)) b 2 (.int .i64 (S1 ++ (l1 ++ (x, a) :: l2) :: S2).flatten.length) n.2 0 = some (kv n.1) ∧ upd (upd (laid G p q (ptr (a, 0)) (ptr (a, 0))) L (S1.length * 5 + 4) (.int .i64 (l1 ++ (x, a) :: l2).length)) b 2 (.int .i64 (S1 ++ (l1 ++ (x, a) :: l2) :: S2).flatten.length) n.2 1 = some (.int .i64 r) := by
      intro m hm hnm
      have n1 := h.nb (mem_flat_of hm hnm)
      have n2 := h.nL (mem_flat_of hm hnm)
      have n3 : n.2 ≠ a := fun e => han (e ▸ List.mem_map.2 ⟨n, mem_flat_of hm hnm, rfl⟩)
      rw [upd_other (by omega), upd_other (by omega), laid_else alp alq (by omega) (by omega), upd_other (by omega), upd_other (by omega), laid_else alp alq (by omega) (by omega), hG _ _ n3, hG _ _ n3]
      exact h.item r m n hm hnm
    by_cases e : r = S1.length
    · subst e
      rw [at_mid] at hr
      cases hr
      have hn' : n ∈ l1 ++ l2 ∨ n = (x, a) := by
        rcases List.mem_append.1 hn with q | q
        · exact .inl (by simp [q])
        · rcases List.mem_cons.1 q with q | q
          · exact .inr q
          · exact .inl (by simp [q])
      rcases hn' with hn' | rfl
      · exact key _ (at_mid _ _ _) hn'
      · simp only
        rw [upd_other (by omega), upd_other (by omega), laid_else alp alq (by omega) (by omega), upd_other (by omega), upd_other (by omega), laid_else alp alq (by omega) (by omega)]
        exact ⟨g0, g1⟩
    · exact key ns ((at_other e).trans hr) hn
  · intro r ns hr
    have hall : ∀ y, y ∈ ringOf L r ns → Al y ∧ y.1 ≠ b := by
      intro y hy
      refine ⟨al_ring hy, ?_⟩
      rcases block_ring hy with rfl | ⟨n, hn, rfl⟩
      · exact fun e => hbL e.symm
      · by_cases e : r = S1.length
        · subst e
          rw [at_mid] at hr
          cases hr
          have hn' : n ∈ l1 ++ l2 ∨ n = (x, a) := by
            rcases List.mem_append.1 hn with q | q
            · exact .inl (by simp [q])
            · rcases List.mem_cons.1 q with q | q
              · exact .inr q
              · exact .inl (by simp [q])
          rcases hn' with hn' | rfl
          · exact h.nb (mem_flat_of (at_mid _ _ _) hn')
          · exact hab
        · exact h.nb (mem_flat_of ((at_other e).trans hr) hn)
    refine ch_beside ?_ hall
    by_cases e : r = S1.length
    · subst e
      rw [at_mid] at hr
      cases hr
      unfold ringOf
      rw [List.map_append, List.map_cons, List.append_assoc, List.cons_append]
      exact k
    · have hr' := (at_other (y := l1 ++ l2) e).symm.trans hr
      refine ch_far (chG (h.chain r ns hr') ?_) alp alq (fun y hy => al_ring hy) (h.apart hr' e hpr) (h.apart hr' e hqr)
      intro y hy
      rcases block_ring hy with rfl | ⟨n, hn, rfl⟩
      · exact fun e => haL e.symm
      · exact fun e => han (e ▸ List.mem_map.2 ⟨n, mem_flat_of hr' hn, rfl⟩)
  · have hperm : (b :: L :: (S1 ++ (l1 ++ (x, a) :: l2) :: S2).flatten.map (·.2)).Perm (a :: b :: L :: (S1 ++ (l1 ++ l2) :: S2).flatten.map (·.2)) := by
      have h1 : ((S1 ++ (l1 ++ (x, a) :: l2) :: S2).flatten.map (·.2)).Perm (a :: (S1 ++ (l1 ++ l2) :: S2).flatten.map (·.2)) := by
        simp only [List.flatten_append, List.flatten_cons, List.map_append, List.map_cons, List.append_assoc, List.cons_append]
        refine (List.Perm.append_left _ (List.perm_middle)).trans ?_
        exact List.perm_middle
      exact ((h1.cons L).cons b).trans (((List.Perm.swap a L _).cons b).trans (List.Perm.swap a b _))
    exact hperm.nodup_iff.2 (List.nodup_cons.2 ⟨ha, h.blocks⟩)
end
end
end Go.Proofs.Ytnjpdcoahojgbaa
