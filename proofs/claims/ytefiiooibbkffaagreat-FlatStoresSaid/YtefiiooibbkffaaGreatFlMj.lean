/- Layer 17 (landed): a child of a process. Layer 17 (landed): fork. -/
import Derived.Test.YtefiiooibbkffaaGreatFlDx
import Derived.Test.YtefiiooibbkffaaGreatVmpLh
import Derived.Test.YtefiiooibbkffaaGreatFlSm
namespace Go.Proofs.YtefiiooibbkffaaGreat
open Go.ChangeShapes Go.WideShapes Go.ChangeAt Go.RowKit Go.Deep Go.Sort
open Go.Maps (Keyed)
set_option linter.unusedVariables false
set_option linter.unusedSimpArgs false

theorem pg_nx {k : Fk} (h : ∀ q, q ∈ k.pa.A → q.2 < k.nx) (x : En) (pg : Int) : ∀ q, q ∈ (takePg x k pg).pa.A → q.2 < (takePg x k pg).nx := by
  unfold takePg
  split
  · exact (slot_lt h).2.2.1
  · cases ownF k.c k.pa pg with
    | none => exact h
    | some b => intro q hq; have := h q hq; simp only; omega
theorem fold_len17 (x : En) : ∀ (l : List Int) {k : Fk} {a b : Nat}, TkL k a b → (∀ q, q ∈ k.pa.A → q.2 < k.nx) → TkL (l.foldl (takePg x) k) (a + l.length) (b + l.length) ∧ (∀ q, q ∈ (l.foldl (takePg x) k).pa.A → q.2 < (l.foldl (takePg x) k).nx)
  | [], k, a, b, h, hn => ⟨h, hn⟩
  | pg :: l, k, a, b, h, hn => by
    have h2 := fold_len17 x l (tkL_next (x := x) (pg := pg) h hn) (pg_nx hn x pg)
    rw [List.foldl_cons, List.length_cons]
    refine ⟨?_, h2.2⟩
    have h3 := h2.1
    unfold TkL at h3 ⊢
    omega
theorem take_len (x : En) {k : Fk} {a b : Nat} (h : TkL k a b) (hn : ∀ q, q ∈ k.pa.A → q.2 < k.nx) : TkL (takeF k x) (a + (x.e - x.s).toNat) (b + (x.e - x.s).toNat) ∧ (∀ q, q ∈ (takeF k x).pa.A → q.2 < (takeF k x).nx) := by
  unfold takeF
  split
  · have h2 := fold_len17 x (pagesE x) (k := ⟨⟨(mapV k.ch.L x.s (takeE x) true).l, k.ch.A⟩, k.pa, k.c, k.nx⟩) (a := a) (b := b) h hn
    rw [pages_len] at h2
    exact h2
  · refine ⟨?_, hn⟩
    unfold TkL at h ⊢
    simp only
    omega
theorem takePg_L (x : En) (k : Fk) (pg : Int) : (takePg x k pg).ch.L = k.ch.L ∧ (takePg x k pg).pa.L = k.pa.L := by
  unfold takePg
  split
  · refine ⟨rfl, ?_⟩
    unfold slotF
    cases geA k.pa.A pg <;> rfl
  · cases ownF k.c k.pa pg <;> exact ⟨rfl, rfl⟩
theorem fold_L (x : En) : ∀ (l : List Int) (k : Fk), (l.foldl (takePg x) k).ch.L = k.ch.L ∧ (l.foldl (takePg x) k).pa.L = k.pa.L
  | [], k => ⟨rfl, rfl⟩
  | pg :: l, k => by
    have h1 := takePg_L x k pg
    have h2 := fold_L x l (takePg x k pg)
    rw [List.foldl_cons]
    exact ⟨h2.1.trans h1.1, h2.2.trans h1.2⟩
theorem takeF_L (k : Fk) (x : En) : (takeF k x).ch.L = (mapV k.ch.L x.s (takeE x) true).l ∧ (takeF k x).pa.L = k.pa.L := by
  unfold takeF
  split
  · exact fold_L x _ _
  · exact ⟨rfl, rfl⟩
/-- What a fork's round may take for granted. -/
structure TkI (k : Fk) (q : Nat) (s b : Nat) : Prop where
  mp : MapL k.ch.L
  ln : sumE k.ch.L ≤ (s : Int)
  tl : TkL k s (b + s)
  nx : ∀ a, a ∈ k.pa.A → a.2 < k.nx
theorem takeE_se (x : En) : (takeE x).s = x.s ∧ (takeE x).e = x.e := by unfold takeE; split <;> exact ⟨rfl, rfl⟩
theorem TkI.next {k : Fk} {q s b : Nat} (h : TkI k q s b) (x : En) (hx : x.s ≤ x.e) : TkI (takeF k x) (q + 1) (s + (x.e - x.s).toNat) b := by
  have h1 := take_len x h.tl h.nx
  have h2 := takeF_L k x
  have h3 := map_did h.mp x.s (takeE x) true
  refine ⟨by rw [h2.1]; exact h3.1, by
    rw [h2.1]
    have h4 := sum_mapV h.mp x.s (takeE x) true (by rw [(takeE_se x).1, (takeE_se x).2]; exact hx)
    rw [(takeE_se x).1, (takeE_se x).2] at h4
    have := h.ln
    omega, ?_, h1.2⟩
  have := h1.1
  unfold TkL at this ⊢
  omega
def sumN17 (L : List En) : Nat := (L.map fun x => (x.e - x.s).toNat).sum
theorem sumN_take {L : List En} {q : Nat} {x : En} (hx : L[q]? = some x) : sumN17 (L.take (q + 1)) = sumN17 (L.take q) + (x.e - x.s).toNat := by
  unfold sumN17
  rw [takel_at hx, List.map_append, List.sum_append]
  simp
theorem sumN_le : ∀ (L : List En) (q : Nat), sumN17 (L.take q) ≤ sumN17 L
  | [], q => by simp [sumN17]
  | x :: L, 0 => by simp [sumN17]
  | x :: L, q + 1 => by
    have := sumN_le L q
    unfold sumN17 at this ⊢
    simp only [List.take_succ_cons, List.map_cons, List.sum_cons]
    omega
section
variable {w w' : World} {kd kd' : Nat → Ro} {t r : Nat} {n id : Int} {ι : Nat → Nat} {g : Int → PG} {sp : Nat → Value} {ps : List (Int × Pr)} {k : Fk}
theorem take_ok (k0 : BW w kd t g ι sp k.c ((n, k.ch) :: setP ps id k.pa)) (hnx : ∀ q, q ∈ (n, k.ch) :: setP ps id k.pa → ∀ a, a ∈ q.2.A → a.2 < k.nx) (hn : n ≠ id) (hno : geA ps n = none) {p0 : Pr} (hp : geA ps id = some p0) (x : En) (hx : GoodE x) (hm : MapL k.ch.L) (hl : k.ch.L.length ≤ 890)
    (hA1 : k.ch.A.length + (x.e - x.s).toNat ≤ 100000000) (hA2 : k.pa.A.length + (x.e - x.s).toNat ≤ 100000000) :
    Calls Tryz.prog 131 #[.pointer (some ⟨(g n).b, 0, none⟩), .pointer (some ⟨(g id).b, 0, none⟩), .agg #[.int .i64 x.s, .int .i64 x.e, .int .i64 x.f, .int .i64 x.o, .bool x.sh, .int .i64 x.p, .int .i64 x.m, .int .i64 x.i, .int .i64 x.a, .bool x.wi]] w fun e w' => e = .returned (.tuple #[]) ∧ ∃ kd' g' ι' sp', TkS w w' kd t g n id ps (takeF k x) kd' g' ι' sp' := by
  by_cases h0 : x.i = 0
  · exact take_a k0 hnx hn hno hp x hx h0 hm hl hA1 hA2
  · by_cases h1 : x.i = 1
    · exact take_b k0 hnx hn hno hp x hx h1 hm hl hA1 hA2
    · exact take_c k0 hnx hn hno hp x hx h0 h1 hm hl hA1 hA2
end
end Go.Proofs.YtefiiooibbkffaaGreat

namespace Go.Proofs.YtefiiooibbkffaaGreat
open Go.ChangeShapes Go.WideShapes Go.ChangeAt Go.RowKit Go.Deep Go.Sort
open Go.Maps (Keyed)
set_option linter.unusedVariables false
set_option linter.unusedSimpArgs false

section
variable {w w' : World} {kd kd' : Nat → Ro} {t r : Nat} {h : Gh} {S : Fl} {id : Int} {p : Pr}
theorem FW.plen (k : FW w kd t r h S) (ty : TypeId) : (Builtin.len_ #[52] ty #[.map (some h.pm)]).run Tryz.prog w = .ok (.int .i64 (S.ps.length : Int)) w := by
  have h1 := k.pm.pm.len lawsP ty
  simp only [List.length_map] at h1
  exact h1
theorem fork_no (k : FW w kd t r h S) (hl : S.ps.length ≤ 16) (b : Nat) (hno : ¬ S.ps.length < 16) :
    Calls Tryz.prog 74 #[.pointer (some ⟨r, 0, none⟩), .pointer (some ⟨b, 0, none⟩)] w fun e w' => e = .returned (.tuple #[.int .i64 0, .int .i64 5]) ∧ w' = w := by
  have c0 := k.hw.at.1
  have hlen := fun ty => k.plen ty
  generalize S.ps.length = n at *
  obtain rfl : n = 16 := by omega
  clear k
  go_enter Tryz.func74, Tryz.ntmps74
  go_wp2_with fail
  go_ret2
  exact ⟨rfl, rfl⟩
/-- What a child's blocks are for. -/
def kdC (kd : Nat → Ro) (t : Nat) (n : Int) (G : PG) (U : Option Nat) : Nat → Ro := fun x => if x = G.b then .w t (.pb n) else if x = G.m then .w t (.vm n) else if x = G.sm then .w t (.sm n) else if U = some x then .no else kd x
def gC (g : Int → PG) (n : Int) (G : PG) : Int → PG := fun x => if x = n then G else g x
theorem BW.child (k : BW w kd t h.g h.ι h.sp S.c S.ps) {n : Int} (hn : geA S.ps n = none) {G : PG} (hG : NewP w w' G) (g : w.grownBy w' none) {U : Option Nat} (hU : ∀ b, U = some b → w.heap.size ≤ b) :
    BW w' (kdC kd t n G U) t (gC h.g n G) h.ι h.sp S.c ((n, ⟨[], []⟩) :: S.ps) ∧ Ch noRo kd (kdC kd t n G U) w w' := by
  have o1 := hG.o1
  have o2 := hG.o2
  have o3 := hG.o3
  have hch : Ch noRo kd (kdC kd t n G U) w w' := (Ch.grown (R := noRo) (kd := kd) g).name fun b hb => by
    unfold kdC
    rw [if_neg (by omega), if_neg (by omega), if_neg (by omega), if_neg (fun e => by have := hU b e; omega)]
  refine ⟨⟨?_, fun q hq => ?_, fun q hq a ha => ?_⟩, hch⟩
  · rw [List.map_cons, List.nodup_cons]
    exact ⟨fun hm => by obtain ⟨q, hq, e⟩ := List.mem_map.1 hm; exact geA_none hn q hq e, k.nd⟩
  · rcases List.mem_cons.1 hq with rfl | hq
    · have e : gC h.g n G n = G := by unfold gC; rw [if_pos rfl]
      show PAt w' (kdC kd t n G U) t (gC h.g n G n) n h.ι ⟨[], []⟩
      rw [e]
      refine ⟨hG.hb, ?_, hG.vm, ?_, (fun b hb => by rw [hG.nv] at hb; cases hb), hG.sm, ?_⟩
      · unfold kdC; rw [if_pos rfl]
      · unfold kdC; rw [if_neg (by omega), if_pos rfl]
      · unfold kdC; rw [if_neg (by omega), if_neg (by omega), if_pos rfl]
    · have h3 := (k.pr q hq).ch hch (no_ro _) (no_ro _) (no_ro _) (no_ro _)
      have e : gC h.g n G q.1 = h.g q.1 := by unfold gC; rw [if_neg (geA_none hn q hq)]
      rw [e]
      exact h3
  · rcases List.mem_cons.1 hq with rfl | hq
    · cases ha
    · exact (k.sl q hq a ha).ch hch (no_ro _) (no_ro _)
theorem TkS.start (k : BW w kd t h.g h.ι h.sp S.c S.ps) {n : Int} (hn : geA S.ps n = none) (hp : geA S.ps id = some p) (hnx : ∀ q, q ∈ S.ps → ∀ a, a ∈ q.2.A → a.2 < S.nx) {G : PG} (hG : NewP w w' G) (g : w.grownBy w' none) {U : Option Nat} (hU : ∀ b, U = some b → w.heap.size ≤ b) :
    TkS w' w' (kdC kd t n G U) t (gC h.g n G) n id S.ps ⟨⟨[], []⟩, p, S.c, S.nx⟩ (kdC kd t n G U) (gC h.g n G) h.ι h.sp := by
  obtain ⟨h1, h2⟩ := k.child hn hG g hU
  have e : setP S.ps id p = S.ps := setP_same _ k.nd hp
  refine ⟨?_, Ch.refl _ _ _, fun _ => ⟨rfl, rfl, rfl⟩, fun q hq a ha => ?_⟩
  · rw [e]; exact h1
  · rw [e] at hq
    rcases List.mem_cons.1 hq with rfl | hq
    · cases ha
    · exact hnx q hq a ha
theorem fork_not {t : Nat} {n id : Int} {x : Rx} (h1 : x ≠ .vm n) (h2 : x ≠ .vr n) (h3 : x ≠ .sm n) (h4 : x ≠ .sm id) : ¬ forkRo t n id (.w t x) := fun h => by
  rcases h with h | h | h | h
  · injection h with _ e; exact h1 e
  · injection h with _ e; exact h2 e
  · injection h with _ e; exact h3 e
  · injection h with _ e; exact h4 e
theorem fork_nsh (t : Nat) (n id : Int) : ¬ forkRo t n id .sh := fun h => by rcases h with h | h | h | h <;> cases h
theorem fork_nno (t : Nat) (n id : Int) : ¬ forkRo t n id .no := fun h => by rcases h with h | h | h | h <;> cases h
/-- A child that has all is put into the world. -/
theorem forked (k : FW w kd t r h S) {n : Int} (hn : geA S.ps n = none) {G : PG} {kd0 : Nat → Ro} {w3 wr w9 : World} (c0 : Ch noRo kd kd0 w w3) {K : Fk} {g' : Int → PG} {ι' : Nat → Nat} {sp' : Nat → Value}
    (T : TkS w3 wr kd0 t (gC h.g n G) n id S.ps K kd' g' ι' sp') (hg : wr.grownBy w9 (some h.pm))
    (hm : MapV Tryz.prog 3 klI okW w9 h.pm ((n, .pointer (some ⟨G.b, 0, none⟩)) :: dropV ((S.ps.map (·.1)).map fun id' => (id', .pointer (some ⟨(h.g id').b, 0, none⟩))) n)) :
    Dn t r kd w w9 { S with ps := (n, K.ch) :: setP S.ps id K.pa, c := K.c, nx := K.nx } := by
  have C : Ch (forkRo t n id) kd kd' w wr := (c0.mono fun _ e => (no_ro _ e).elim).trans T.ch
  have h3 := k.hw.ch C (fork_nsh _ _ _) (fork_not (by simp) (by simp) (by simp) (by simp)) (fork_not (by simp) (by simp) (by simp) (by simp)) (fork_not (by simp) (by simp) (by simp) (by simp)) (fork_not (by simp) (by simp) (by simp) (by simp))
  have h4 := k.pm.ch C (fork_not (by simp) (by simp) (by simp) (by simp))
  have C9 : Ch (fun ρ => ρ = .w t .pm) kd' kd' wr w9 := Ch.one hg h4.kp
  have h5 := h3.ch C9 (by simp) (by simp) (by simp) (by simp) (by simp)
  have h6 := T.bw.ch C9 (by simp) (by simp) (by simp) (by simp) (by simp) (by simp)
  refine ⟨kd', { h with g := g', ι := ι', sp := sp' }, ⟨⟨h5.head, h5.kr, h5.sz, h5.kz, h5.fm, h5.kf, h5.fs, h5.lm, h5.kl, h5.ls⟩, ⟨?_, (C9.kd _ h4.pm.lt).trans h4.kp⟩, h6⟩, (C.mono fork_own).trans (C9.mono own_mono)⟩
  have e : ((n, Value.pointer (some ⟨G.b, 0, none⟩)) :: dropV ((S.ps.map (·.1)).map fun id' => (id', Value.pointer (some ⟨(h.g id').b, 0, none⟩))) n) = ((((n, K.ch) :: setP S.ps id K.pa).map (·.1)).map fun id' => (id', Value.pointer (some ⟨(g' id').b, 0, none⟩))) := by
    rw [List.map_cons, List.map_cons, setP_ids]
    have hne : ∀ x, x ∈ S.ps.map (·.1) → x ≠ n := fun x hx e => by
      obtain ⟨q, hq, e2⟩ := List.mem_map.1 hx
      exact geA_none hn q hq (e2.trans e)
    have h1 : (g' n).b = G.b := by rw [(T.gb n).1]; unfold gC; rw [if_pos rfl]
    have h2 : dropV ((S.ps.map (·.1)).map fun id' => (id', Value.pointer (some ⟨(h.g id').b, 0, none⟩))) n = (S.ps.map (·.1)).map fun id' => (id', Value.pointer (some ⟨(h.g id').b, 0, none⟩)) := by
      unfold dropV
      refine List.filter_eq_self.2 fun y hy => ?_
      obtain ⟨x, hx, rfl⟩ := List.mem_map.1 hy
      simpa using hne x hx
    rw [h2]
    simp only [h1]
    congr 1
    refine List.map_congr_left fun x hx => ?_
    rw [(T.gb x).1]
    unfold gC
    rw [if_neg (hne x hx)]
  show MapV Tryz.prog 3 klI okW w9 h.pm ((((n, K.ch) :: setP S.ps id K.pa).map (·.1)).map fun id' => (id', .pointer (some ⟨(g' id').b, 0, none⟩)))
  rw [← e]
  exact hm
set_option maxRecDepth 100000 in
set_option maxHeartbeats 16000000 in
theorem fork_yes (k : FW w kd t r h S) (hok : SOk S) (hp : geA S.ps id = some p) (hlt16 : S.ps.length < 16) (hln : p.L.length ≤ 800) (hsum : sumN17 (forkV p.L) ≤ 800) (hA : p.A.length ≤ 50000000) :
    Calls Tryz.prog 74 #[.pointer (some ⟨r, 0, none⟩), .pointer (some ⟨(h.g id).b, 0, none⟩)] w fun e w' => e = .returned (.tuple #[.int .i64 (lowA S.ps), .int .i64 0]) ∧ Dn t r kd w w' (S.fork id p).S := by
  have hfk : S.fork id p = ⟨{ S with ps := (lowA S.ps, (forkF S p).ch) :: setP S.ps id (forkF S p).pa, c := (forkF S p).c, nx := (forkF S p).nx }, lowA S.ps, 0⟩ := by unfold Fl.fork; rw [if_pos hlt16]
  rw [hfk]
  obtain ⟨i0, e0, e1, e2, -⟩ := lowA_spec S.ps
  obtain ⟨n, hn⟩ : ∃ n, lowA S.ps = n := ⟨_, rfl⟩
  have hnone : geA S.ps n = none := by rw [← hn, e0]; exact e2
  have hni : okI n := by rw [← hn, e0]; exact ⟨by omega, by omega⟩
  have hne : n ≠ id := fun e => by rw [e, hp] at hnone; cases hnone
  rw [hn]
  have hPI := hok.pi _ (geA_some hp)
  have hPI' : MapL p.L := hPI.mp
  have c0 := k.hw.at.1
  have hlen := fun ty => k.plen ty
  have b16 : decide ((S.ps.length : Int) ≥ 16) = false := decide_eq_false (by omega)
  have HNew := Lib.hid (newP_ok w)
  have HK := Lib.hid k
  have HOk := Lib.hid hok
  have HP := Lib.hid hp
  have HNo := Lib.hid hnone
  have HNe := Lib.hid hne
  have HNi := Lib.hid hni
  have HLow := Lib.hid hn
  have HML := Lib.hid hPI'
  have HSum := Lib.hid hsum
  have HAl := Lib.hid hA
  have Hln := Lib.hid hln
  have HL16 := Lib.hid hlt16
  have HI0 := Lib.hid (fun W (g : w.grownBy W none) => fork_ok ((k.grow g).bw.get hp).vm hPI' (by omega))
  clear k hok hp hnone hne hni hfk hPI hPI' e0 e1 e2 hn hsum hA hln hlt16
  generalize S.ps.length = m at *
  go_enter Tryz.func74, Tryz.ntmps74
  go_wp2_with fail
  refine HNew.out.mono ?_
  rintro e w1 ⟨G, rfl, hG, g1⟩
  have HG1 := Lib.hid hG
  have HW1 := Lib.hid g1
  have b0 := ((HK.out.grow g1).bw.get HP.out).at0
  have HF := Lib.hid (HI0.out w1 g1)
  clear hG g1 c0 hlen HNew HI0
  go_wp2_with fail
  refine HF.out.mono ?_
  rintro e w2 ⟨rc, v', rfl, hrc, hV, hvb, g2⟩
  have HEn := Lib.hid (entries_ok hV (by have := hV.row; have h1 := merge_len (childL p.L); have h2 : (childL p.L).length ≤ p.L.length := by { unfold childL; rw [List.length_map]; exact List.length_filter_le _ _ }; have := Hln.out; show (forkV p.L).length ≤ 1000000; unfold forkV; omega))
  have HW2 := Lib.hid (grown_trans HW1.out g2)
  have HG2 := Lib.hid (HG1.out.grow g2)
  clear hV hvb g2 hrc HF b0 HG1 HW1
  go_wp2_with fail
  refine HEn.out.mono ?_
  rintro e w3 ⟨u, rfl, hu, g3⟩
  obtain ⟨au, cu, hau⟩ := OwnOf.form (show OwnOf enCells 10 50 w3 w2.heap.size u (forkV p.L) from hu)
  subst hau
  have HU := Lib.hid hu
  have HW3 := Lib.hid (grown_trans HW2.out g3)
  have HG3 := Lib.hid (HG2.out.grow g3)
  have hs3 := g3.size
  have HBu := Lib.hid (show ∀ b, (Value.slice au (forkV p.L).length cu).ownBlock = some b → w.heap.size ≤ b ∧ b < w3.heap.size ∧ b ≠ G.b ∧ b ≠ G.m ∧ b ≠ G.sm from fun b hb => by
    have h1 := OwnOf.lt hu hb
    have h2 := heap_lt HG2.out.hb
    have := HG2.out.o1
    have := HG2.out.o2
    have := HG2.out.o3
    exact ⟨by have := HW2.out.size; omega, h1.2, by omega, by omega, by omega⟩)
  clear hu g3 HEn HG2 HW2 hs3
  obtain ⟨L, hL⟩ : ∃ L, forkV p.L = L := ⟨_, rfl⟩
  have HL := Lib.hid hL
  have HLm := Lib.hid (show MapL L by rw [← hL]; exact mapL_fork HML.out)
  have hLn : L.length ≤ 800 := by
    have h1 := merge_len (childL p.L)
    have h2 : (childL p.L).length ≤ p.L.length := by unfold childL; rw [List.length_map]; exact List.length_filter_le _ _
    have := Hln.out
    rw [← hL]
    unfold forkV
    omega
  have hLs : sumN17 L ≤ 800 := by rw [← hL]; exact HSum.out
  rw [hL] at HU HBu
  try simp only [hL]
  clear hL HSum Hln HML
  have HT0 := Lib.hid (TkS.start (t := t) HK.out.bw HNo.out HP.out HOk.out.nx HG3.out HW3.out (U := (Value.slice au L.length cu).ownBlock) fun b hb => (HBu.out b hb).1)
  have HC0 := Lib.hid ((HK.out.bw.child HNo.out HG3.out HW3.out (U := (Value.slice au L.length cu).ownBlock) fun b hb => (HBu.out b hb).1).2)
  have HRow := Lib.hid (show ∀ kd' wr, Ch (forkRo t n id) (kdC kd t n G (Value.slice au L.length cu).ownBlock) kd' w3 wr → ERow wr (.slice au L.length cu) L from fun kd' wr c => eown_row (OwnOf.kept HU.out fun b hb => c.block b (OwnOf.lt HU.out hb).2 (by
    obtain ⟨-, -, h1, h2, h3⟩ := HBu.out b hb
    unfold kdC
    rw [if_neg h1, if_neg h2, if_neg h3, if_pos hb]
    exact fork_nno _ _ _)))
  obtain ⟨kd0, hkd0⟩ : ∃ kd0, kdC kd t n G (Value.slice au L.length cu).ownBlock = kd0 := ⟨_, rfl⟩
  rw [hkd0] at HT0 HC0 HRow
  clear hkd0 HU HBu
  go_wp2_with fail
  go_loopw [24] (fun iv wr => ∃ q : Nat, q ≤ L.length ∧ iv = .int .i64 q ∧ Hid (∃ kd' g' ι' sp', TkS w3 wr kd0 t (gC h.g n G) n id S.ps ((L.take q).foldl takeF ⟨⟨[], []⟩, p, S.c, S.nx⟩) kd' g' ι' sp') ∧ Hid (TkI ((L.take q).foldl takeF ⟨⟨[], []⟩, p, S.c, S.nx⟩) q (sumN17 (L.take q)) p.A.length)) (fun iv _ => L.length - (intOf iv).toNat)
  case atStart => exact ⟨0, by omega, rfl, Lib.hid ⟨_, _, _, _, HT0.out⟩, Lib.hid ⟨mapL_nil, by simp [sumE], ⟨by simp, by simp [sumN17]⟩, HOk.out.nx _ (geA_some HP.out)⟩⟩
  case round =>
    obtain ⟨q, hq, rfl, HT, HI⟩ := hrel
    clear HT0
    by_cases hlt : q < L.length
    · obtain ⟨x, hx⟩ : ∃ x, L[q]? = some x := ⟨_, List.getElem?_eq_getElem hlt⟩
      obtain ⟨kd1, g1, ι1, sp1, hT⟩ := HT.out
      obtain ⟨ga, o, c1, hv1, ka0, ka1, ka2, ka3, ka4, ka5, ka6, ka7, ka8, ka9⟩ := en_cells (HRow.out _ _ hT.ch) hx
      injection hv1 with e1 e2 e3
      subst e1 e3
      have hgx := (rf_good HLm.out.rf x (List.mem_of_getElem? hx)).1
      have hsn := sumN_take hx
      have hsl := sumN_le L (q + 1)
      have HNxt := Lib.hid (HI.out.next x (by have := hgx.lt; omega))
      have HFold := Lib.hid (show takeF ((L.take q).foldl takeF ⟨⟨[], []⟩, p, S.c, S.nx⟩) x = (L.take (q + 1)).foldl takeF ⟨⟨[], []⟩, p, S.c, S.nx⟩ by rw [takel_at hx, List.foldl_append]; rfl)
      rw [← hsn] at HNxt
      have hi := HI.out
      have hAl := HAl.out
      obtain ⟨K, hK⟩ : ∃ K, (L.take q).foldl takeF ⟨⟨[], []⟩, p, S.c, S.nx⟩ = K := ⟨_, rfl⟩
      rw [hK] at hT hi HNxt HFold
      have hi1 := hi.tl.1
      have hi2 := hi.tl.2
      have hi3 := hi.ln
      have hi4 := len_sum _ hi.mp.rf
      have HTake := Lib.hid (fun W (gw : wr.grownBy W none) => take_ok ((hT.bw).ch (R := noRo) (Ch.grown gw) (no_ro _) (fun _ => no_ro _) (fun _ => no_ro _) (fun _ => no_ro _) (fun _ => no_ro _) (fun _ => no_ro _)) hT.nx HNe.out HNo.out HP.out x hgx hi.mp (by omega) (by omega) (by omega))
      have hgb : (g1 n).b = G.b := by rw [(hT.gb n).1]; unfold gC; rw [if_pos rfl]
      have hgi : (g1 id).b = (h.g id).b := by rw [(hT.gb id).1]; unfold gC; rw [if_neg (fun e => HNe.out e.symm)]
      rw [hgb, hgi] at HTake
      have HTS := Lib.hid hT
      have gx := World.grownBy_alloc wr (.cells #[.int .i64 x.s, .int .i64 x.e, .int .i64 x.f, .int .i64 x.o, .bool x.sh, .int .i64 x.p, .int .i64 x.m, .int .i64 x.i, .int .i64 x.a, .bool x.wi] 50) none
      have HX := Lib.hid hx
      clear hT hi hi1 hi2 hi3 hi4 hK hgb hgi hx hgx hsn hsl HT HI hAl
      go_wp2_with fail
      refine (HTake.out _ gx).mono ?_
      rintro e w5 ⟨rfl, kd5, g5, ι5, sp5, hT5⟩
      rw [HFold.out] at hT5 HNxt
      have HT5 := Lib.hid (show ∃ kd' g' ι' sp', TkS w3 w5 kd0 t (gC h.g n G) n id S.ps ((L.take (q + 1)).foldl takeF ⟨⟨[], []⟩, p, S.c, S.nx⟩) kd' g' ι' sp' from ⟨kd5, g5, ι5, sp5, hT5.bw, (HTS.out.ch.trans (Ch.grown gx)).trans hT5.ch, fun z => ⟨(hT5.gb z).1.trans (HTS.out.gb z).1, (hT5.gb z).2.1.trans (HTS.out.gb z).2.1, (hT5.gb z).2.2.trans (HTS.out.gb z).2.2⟩, hT5.nx⟩)
      clear hT5 gx HTS HTake HFold HX ka0 ka1 ka2 ka3 ka4 ka5 ka6 ka7 ka8 ka9
      go_wp2_with fail
      go_roundw
      case rel => exact ⟨q + 1, by omega, by go_num, HT5, HNxt⟩
      case measure => simp [intOf]; omega
    · obtain rfl : q = L.length := by omega
      rw [List.take_length] at HT
      have HFk := Lib.hid (show forkF S p = L.foldl takeF ⟨⟨[], []⟩, p, S.c, S.nx⟩ by unfold forkF; rw [HL.out])
      obtain ⟨kd1, g1, ι1, sp1, hT⟩ := HT.out
      rw [← HFk.out] at hT
      have hC : Ch (forkRo t n id) kd kd1 w wr := (HC0.out.mono fun _ e => (no_ro _ e).elim).trans hT.ch
      have h4 := HK.out.pm.ch hC (fork_not (by simp) (by simp) (by simp) (by simp))
      have c0 := (HK.out.hw.ch hC (fork_nsh _ _ _) (fork_not (by simp) (by simp) (by simp) (by simp)) (fork_not (by simp) (by simp) (by simp) (by simp)) (fork_not (by simp) (by simp) (by simp) (by simp)) (fork_not (by simp) (by simp) (by simp) (by simp))).at.1
      have HLw := Lib.hid (lowP_ok S.ps (fun id' _ => .pointer (some ⟨(h.g id').b, 0, none⟩)) (by have := h4.pm; rw [List.map_map] at this; exact this) (by have := HOk.out.pl; omega))
      rw [HLow.out] at HLw
      obtain ⟨w9, hup, h9, t9⟩ := h4.pm.put lawsP (x := n) (by rw [List.length_map, List.length_map]; have := HOk.out.pl; unfold maxLen; omega) (.pointer (some ⟨G.b, 0, none⟩)) (okW_of HNi.out)
      rw [show kvI n = Value.int .i64 n from rfl] at hup
      have HD := Lib.hid (forked HK.out HNo.out HC0.out hT t9.grown h9)
      clear HT hT hC h4 h9 t9 HI HFk HL HLm HRow
      go_wp2_with fail
      refine HLw.out.mono ?_
      rintro e w5 ⟨rfl, rfl⟩
      go_wp2_with fail
      go_ret2
      exact ⟨rfl, HD.out⟩
end
end Go.Proofs.YtefiiooibbkffaaGreat
