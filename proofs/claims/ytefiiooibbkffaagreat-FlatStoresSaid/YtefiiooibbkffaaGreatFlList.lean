/- Layer 17, plainly: a world of processes, their slots, files and loans, and what each operation makes of it. No program. -/
import Derived.Test.YtefiiooibbkffaaGreatVmpFacts
namespace Go.Proofs.YtefiiooibbkffaaGreat
set_option linter.unusedVariables false
set_option linter.unusedSimpArgs false

/-! ### lists of items and what they lead to -/
section
variable {K : Type} {α β : Type} [DecidableEq K]
def geA (N : List (K × α)) (x : K) : Option α := (N.find? fun n => decide (n.1 = x)).map (·.2)
def drA (N : List (K × α)) (x : K) : List (K × α) := N.filter fun n => decide (n.1 ≠ x)
def puA (N : List (K × α)) (x : K) (a : α) : List (K × α) := (x, a) :: drA N x
theorem geA_some {N : List (K × α)} {x : K} {a : α} (h : geA N x = some a) : (x, a) ∈ N := by
  unfold geA at h
  cases hf : N.find? fun n => decide (n.1 = x) with
  | none => rw [hf] at h; cases h
  | some n =>
    rw [hf] at h
    have h1 : n.1 = x := by simpa using List.find?_some hf
    have h2 := List.mem_of_find?_eq_some hf
    simp only [Option.map_some, Option.some.injEq] at h
    rw [← h1, ← h]
    exact h2
theorem geA_none {N : List (K × α)} {x : K} (h : geA N x = none) : ∀ n, n ∈ N → n.1 ≠ x := by
  unfold geA at h
  intro n hn e
  cases hf : N.find? fun n => decide (n.1 = x) with
  | some m => rw [hf] at h; cases h
  | none =>
    have := List.find?_eq_none.1 hf n hn
    simp [e] at this
theorem geA_nil (x : K) : geA ([] : List (K × α)) x = none := rfl
theorem geA_cons (y : K) (a : α) (N : List (K × α)) (x : K) : geA ((y, a) :: N) x = if y = x then some a else geA N x := by
  unfold geA
  rw [List.find?_cons]
  by_cases h : y = x
  · simp [h]
  · simp [h]
theorem geA_drop (N : List (K × α)) (y x : K) : geA (drA N y) x = if y = x then none else geA N x := by
  induction N with
  | nil => unfold drA; simp [geA_nil]
  | cons n N ih =>
    obtain ⟨k, a⟩ := n
    unfold drA at ih ⊢
    rw [List.filter_cons]
    by_cases h : k = y
    · simp only [h, ne_eq, not_true_eq_false, decide_false, Bool.false_eq_true, if_false]
      rw [ih, geA_cons]
      by_cases e : y = x
      · simp [e]
      · simp [e]
    · simp only [ne_eq, h, not_false_eq_true, decide_true, if_true]
      rw [geA_cons, geA_cons, ih]
      by_cases e : k = x
      · simp only [e, if_true]
        rw [if_neg (fun e2 => h (e.trans e2.symm))]
      · simp [e]
theorem geA_put (N : List (K × α)) (y : K) (a : α) (x : K) : geA (puA N y a) x = if y = x then some a else geA N x := by
  unfold puA
  rw [geA_cons]
  by_cases h : y = x
  · simp [h]
  · rw [if_neg h, if_neg h, geA_drop, if_neg h]
theorem geA_filter (N : List (K × α)) (p : K → Bool) (x : K) : geA (N.filter fun n => p n.1) x = if p x = true then geA N x else none := by
  induction N with
  | nil => simp [geA_nil]
  | cons n N ih =>
    obtain ⟨k, a⟩ := n
    rw [List.filter_cons, geA_cons]
    by_cases h : p k = true
    · simp only [h, if_true]
      rw [geA_cons, ih]
      by_cases e : k = x
      · subst e; simp [h]
      · simp [e]
    · rw [if_neg h, ih]
      by_cases e : k = x
      · subst e; simp [h]
      · simp [e]
theorem drA_nd {N : List (K × α)} (h : (N.map (·.1)).Nodup) (x : K) : ((drA N x).map (·.1)).Nodup := h.sublist ((List.filter_sublist).map _)
theorem puA_nd {N : List (K × α)} (h : (N.map (·.1)).Nodup) (x : K) (a : α) : ((puA N x a).map (·.1)).Nodup := by
  unfold puA
  rw [List.map_cons, List.nodup_cons]
  refine ⟨fun hm => ?_, drA_nd h x⟩
  obtain ⟨n, hn, e⟩ := List.mem_map.1 hm
  exact of_decide_eq_true (List.mem_filter.1 hn).2 e
theorem geA_mem {N : List (K × α)} (h : (N.map (·.1)).Nodup) {x : K} {a : α} (hm : (x, a) ∈ N) : geA N x = some a := by
  induction N with
  | nil => cases hm
  | cons n N ih =>
    obtain ⟨k, b⟩ := n
    rw [List.map_cons, List.nodup_cons] at h
    rw [geA_cons]
    rcases List.mem_cons.1 hm with e | hm
    · cases e; simp
    · have hne : k ≠ x := fun e => h.1 (List.mem_map.2 ⟨_, hm, e.symm⟩)
      rw [if_neg hne]
      exact ih h.2 hm
theorem mem_puA {N : List (K × α)} {x : K} {a : α} {n : K × α} (h : n ∈ puA N x a) : n = (x, a) ∨ (n ∈ N ∧ n.1 ≠ x) := by
  unfold puA at h
  rcases List.mem_cons.1 h with h | h
  · exact .inl h
  · exact .inr ⟨(List.mem_filter.1 h).1, of_decide_eq_true (List.mem_filter.1 h).2⟩
theorem puA_len (N : List (K × α)) (x : K) (a : α) : (puA N x a).length ≤ N.length + 1 := by
  unfold puA drA
  have := List.length_filter_le (fun n : K × α => decide (n.1 ≠ x)) N
  rw [List.length_cons]
  omega
theorem geA_isSome {N : List (K × α)} {x : K} : (geA N x).isSome = true ↔ x ∈ N.map (·.1) := by
  constructor
  · intro h
    obtain ⟨a, ha⟩ := Option.isSome_iff_exists.1 h
    exact List.mem_map.2 ⟨_, geA_some ha, rfl⟩
  · intro h
    obtain ⟨n, hn, e⟩ := List.mem_map.1 h
    cases hg : geA N x with
    | some a => rfl
    | none => exact absurd e (geA_none hg n hn)
end
theorem nodup_le {α : Type} [DecidableEq α] : ∀ {l m : List α}, l.Nodup → (∀ x, x ∈ l → x ∈ m) → l.length ≤ m.length
  | [], _, _, _ => by simp
  | x :: l, m, hn, hs => by
    obtain ⟨h1, h2⟩ := List.nodup_cons.1 hn
    have hx := hs x (by simp)
    have h3 : l.length ≤ (m.erase x).length := nodup_le h2 fun y hy => (List.mem_erase_of_ne (fun e => h1 (by rw [← e]; exact hy))).2 (hs y (by simp [hy]))
    rw [List.length_erase_of_mem hx] at h3
    have := List.length_pos_of_mem hx
    rw [List.length_cons]
    omega
/-- The lowest number from 1 on that is not taken. -/
def lowA {α : Type} (N : List (Int × α)) : Int := (((List.range (N.length + 1)).find? fun (i : Nat) => (geA N ((i : Int) + 1)).isNone).getD 0 : Nat) + 1
theorem lowA_spec {α : Type} (N : List (Int × α)) : ∃ i : Nat, lowA N = (i : Int) + 1 ∧ i ≤ N.length ∧ geA N ((i : Int) + 1) = none ∧ ∀ j : Nat, j < i → (geA N ((j : Int) + 1)).isSome = true := by
  unfold lowA
  cases hf : (List.range (N.length + 1)).find? fun (i : Nat) => (geA N ((i : Int) + 1)).isNone with
  | some i =>
    have h1 : (geA N ((i : Int) + 1)).isNone = true := by simpa using List.find?_some hf
    have h2 := List.mem_range.1 (List.mem_of_find?_eq_some hf)
    refine ⟨i, rfl, by omega, by simpa using h1, fun j hj => ?_⟩
    rw [List.find?_range_eq_some] at hf
    have := hf.2.2 j hj
    simpa using this
  | none =>
    exfalso
    have h1 := List.find?_eq_none.1 hf
    have h2 : ∀ j : Nat, j < N.length + 1 → (j : Int) + 1 ∈ N.map (·.1) := fun j hj => by
      have := h1 j (List.mem_range.2 hj)
      refine geA_isSome.1 ?_
      cases hg : geA N ((j : Int) + 1) with
      | some a => rfl
      | none => rw [hg] at this; simp at this
    have h3 : ((List.range (N.length + 1)).map fun j : Nat => (j : Int) + 1).length ≤ (N.map (·.1)).length := by
      refine nodup_le ?_ fun x hx => ?_
      · exact List.pairwise_map.2 (List.nodup_range.imp fun {a b} h e => h (by omega))
      · obtain ⟨j, hj, rfl⟩ := List.mem_map.1 hx
        exact h2 j (List.mem_range.1 hj)
    simp at h3
    omega

/-! ### pages -/
def zeroPg : List UInt8 := List.replicate 4096 0
/-- A page's byte; what is none is a page of noughts. -/
def atB (b : Option (List UInt8)) (i : Int) : Int := match b with | none => 0 | some l => ((l.getD i.toNat 0).toNat : Int)
def withB (b : Option (List UInt8)) (i v : Int) : List UInt8 := (b.getD zeroPg).set i.toNat (UInt8.ofNat v.toNat)
def isAtB (i : Int) : Bool := decide (0 ≤ i ∧ i < 4096)
def isByB (v : Int) : Bool := decide (0 ≤ v ∧ v ≤ 255)
def canB (p right : Int) : Bool := decide (p.toNat &&& right.toNat ≠ 0)

/-- A process: its entries, and the slots of pages. -/
structure Pr where
  L : List En
  A : List (Int × Nat)
/-- A world: files' sizes, pages of files and regions, processes, what slots have, the next slot's number, loans, the greatest region. -/
structure Fl where
  sz : List Int
  F : List ((Int × Int) × List UInt8)
  ps : List (Int × Pr)
  c : Nat → Option (List UInt8)
  nx : Nat
  H : List (Int × Option (List UInt8))
  reg : Int
structure FOp where
  k : Int
  proc : Int
  addr : Int
  n : Int
  prot : Int
  sh : Bool
  file : Int
  off : Int
  fixed : Bool
  how : Int
  ati : Int
  v : Int
  hd : Int
  to : Int
structure Res where
  S : Fl
  n : Int
  e : Int
/-- An error: nothing has changed. -/
def Fl.no (S : Fl) (e : Int) : Res := ⟨S, 0, e⟩
def Fl.ok (S : Fl) (n : Int) : Res := ⟨S, n, 0⟩
def upd {α : Type} (c : Nat → α) (s : Nat) (b : α) : Nat → α := fun x => if x = s then b else c x
def setP (ps : List (Int × Pr)) (id : Int) (p : Pr) : List (Int × Pr) := ps.map fun q => if q.1 = id then (id, p) else q
def newF (sizes : List Int) : Fl := ⟨sizes, [], [(1, ⟨[], []⟩)], fun _ => none, 0, [], 1000⟩
def mayNewB (sizes : List Int) : Bool := decide (sizes.length ≤ 16) && sizes.all fun n => decide (0 ≤ n ∧ n ≤ 4096)

def spotF (e : En) (pg : Int) : Int × Int := (e.f, e.o + pg - e.s)
def hasF (sz : List Int) (f : Int) : Bool := decide (0 < f) && decide (f ≤ sz.length)
def findF (sz : List Int) (F : List ((Int × Int) × List UInt8)) (k : Int × Int) : Option (Option (List UInt8)) :=
  if (hasF sz k.1 && (decide (k.2 < 0) || decide (sz.getD (k.1 - 1).toNat 0 ≤ k.2))) = true then none else some (geA F k)
def ownF (c : Nat → Option (List UInt8)) (p : Pr) (pg : Int) : Option (List UInt8) := match geA p.A pg with | none => none | some s => c s
def Fl.means (S : Fl) (p : Pr) (e : En) (pg : Int) : Option (Option (List UInt8)) := match ownF S.c p pg with | some b => some (some b) | none => findF S.sz S.F (spotF e pg)
def Fl.look (S : Fl) (p : Pr) (pg : Int) : Option (List UInt8) × Int := match atV p.L pg with
  | some e => (match S.means p e pg with | some b => (b, 0) | none => (none, 4))
  | none => (none, 4)
def Fl.reach (S : Fl) (p : Pr) (pg right : Int) (may : Bool) : Option (List UInt8) × Int :=
  if may = true then match atV p.L pg with
    | some e => if canB e.p right = true then S.look p pg else (none, 3)
    | none => (none, 4)
  else (none, 2)
def Fl.byte (S : Fl) (id pg i : Int) : Int × Int := match geA S.ps id with
  | none => (0, 7)
  | some p => if isAtB i = true then (atB (S.look p pg).1 i, (S.look p pg).2) else (0, 2)
def Fl.ofFile (S : Fl) (f n : Int) (may : Bool) : Option (List UInt8) × Int :=
  if hasF S.sz f = true then (if may = true then (match findF S.sz S.F (f, n) with | some b => (b, 0) | none => (none, 4)) else (none, 2)) else (none, 7)
def Fl.fileByte (S : Fl) (f n i : Int) : Int × Int := (atB (S.ofFile f n (isAtB i)).1 i, (S.ofFile f n (isAtB i)).2)

/-! ### slots -/
structure Sl where
  p : Pr
  c : Nat → Option (List UInt8)
  nx : Nat
  s : Nat
def slotF (p : Pr) (c : Nat → Option (List UInt8)) (nx : Nat) (pg : Int) : Sl := match geA p.A pg with
  | some s => ⟨p, c, nx, s⟩
  | none => ⟨⟨p.L, puA p.A pg nx⟩, upd c nx none, nx + 1, nx⟩
def inGone (gone : List En) (pg : Int) : Bool := gone.any fun x => decide (x.s ≤ pg ∧ pg < x.e)
def forgetP (A : List (Int × Nat)) (gone : List En) : List (Int × Nat) := A.filter fun a => !inGone gone a.1
def isInF (ps : List (Int × Pr)) (f pg : Int) : Bool := ps.any fun q => match atV q.2.L pg with | some e => decide (e.f = f) | none => false
def goneF (ps : List (Int × Pr)) (gone : List En) (k : Int × Int) : Bool := gone.any fun x => decide (1000 < x.f ∧ k.1 = x.f ∧ x.o ≤ k.2 ∧ k.2 < x.o + (x.e - x.s)) && !isInF ps x.f (k.2 - x.o + x.s)
def Fl.forget (S : Fl) (gone : List En) : Fl := { S with F := S.F.filter fun n => !goneF S.ps gone n.1 }

/-! ### what each operation makes -/
def Fl.load (S : Fl) (p : Pr) (o : FOp) : Res := ⟨S, atB (S.reach p o.addr 1 (isAtB o.ati)).1 o.ati, (S.reach p o.addr 1 (isAtB o.ati)).2⟩
def Fl.store (S : Fl) (p : Pr) (o : FOp) : Res :=
  if (S.reach p o.addr 2 (isAtB o.ati && isByB o.v)).2 = 0 then
    match atV p.L o.addr with
    | none => S.no 0
    | some e =>
      if e.sh = true then ⟨{ S with F := puA S.F (spotF e o.addr) (withB (S.reach p o.addr 2 (isAtB o.ati && isByB o.v)).1 o.ati o.v) }, 0, 0⟩
      else ⟨{ S with ps := setP S.ps o.proc (slotF p S.c S.nx o.addr).p, c := upd (slotF p S.c S.nx o.addr).c (slotF p S.c S.nx o.addr).s (some (withB (S.reach p o.addr 2 (isAtB o.ati && isByB o.v)).1 o.ati o.v)), nx := (slotF p S.c S.nx o.addr).nx }, 0, 0⟩
  else S.no (S.reach p o.addr 2 (isAtB o.ati && isByB o.v)).2
def Fl.lend (S : Fl) (p : Pr) (o : FOp) : Res :=
  if (S.reach p o.addr 1 true).2 = 0 then
    if S.H.length < 64 then ⟨{ S with H := puA S.H (lowA S.H) (S.reach p o.addr 1 true).1 }, lowA S.H, 0⟩ else S.no 5
  else S.no (S.reach p o.addr 1 true).2
def Fl.peek (S : Fl) (o : FOp) : Res := match geA S.H o.hd with
  | none => S.no 7
  | some b => if isAtB o.ati = true then S.ok (atB b o.ati) else S.no 2
def Fl.back (S : Fl) (o : FOp) : Res := match geA S.H o.hd with
  | none => S.no 7
  | some _ => ({ S with H := drA S.H o.hd } : Fl).ok 0
def layE (reg : Int) (o : FOp) : En := ⟨0, o.n, if (o.sh && decide (o.file = 0)) = true then reg + 1 else o.file, o.off, o.sh, o.prot, 7, if o.sh = true then 1 else 0, 0, false⟩
/-- What is mapped, or gone, of a process. -/
def Fl.went (S : Fl) (id : Int) (p : Pr) (d : Did) : Fl := ({ S with ps := setP S.ps id ⟨d.l, forgetP p.A d.gone⟩ } : Fl).forget d.gone
def Fl.lay (S : Fl) (id : Int) (p : Pr) (o : FOp) : Res :=
  if (decide (o.file > 0) && !hasF S.sz o.file) = true then S.no 7
  else if (decide (o.file = 0) && decide (o.off ≠ 0)) = true then S.no 2
  else if (mapV p.L o.addr (layE S.reg o) o.fixed).err = 0 then ⟨({ S with reg := max S.reg (layE S.reg o).f } : Fl).went id p (mapV p.L o.addr (layE S.reg o) o.fixed), (mapV p.L o.addr (layE S.reg o) o.fixed).n, 0⟩
  else S.no (mapV p.L o.addr (layE S.reg o) o.fixed).err
def Fl.unmap (S : Fl) (p : Pr) (o : FOp) : Res := if (unmapV p.L o.addr o.n).err = 0 then ⟨S.went o.proc p (unmapV p.L o.addr o.n), 0, 0⟩ else S.no (unmapV p.L o.addr o.n).err
/-- A call that changes entries alone. -/
def Fl.turned (S : Fl) (id : Int) (p : Pr) (d : Did) : Res := ⟨{ S with ps := setP S.ps id ⟨d.l, p.A⟩ }, 0, d.err⟩
def wipeF (A : List (Int × Nat)) (c : Nat → Option (List UInt8)) (lo hi : Int) : Nat → Option (List UInt8) := fun s => if (A.any fun a => decide (a.2 = s ∧ lo ≤ a.1 ∧ a.1 < hi)) = true then none else c s
def Fl.advise (S : Fl) (p : Pr) (o : FOp) : Res :=
  if (otherV p.L o.addr o.n 4 o.how 4 false).err = 0 ∧ o.how = 4 then ⟨{ S with ps := setP S.ps o.proc ⟨(otherV p.L o.addr o.n 4 o.how 4 false).l, p.A⟩, c := wipeF p.A S.c o.addr (o.addr + o.n) }, 0, 0⟩
  else S.turned o.proc p (otherV p.L o.addr o.n 4 o.how 4 false)
def pagesE (x : En) : List Int := (List.range (x.e - x.s).toNat).map fun (i : Nat) => x.s + i
/-- A child, its parent, what slots have. -/
structure Fk where
  ch : Pr
  pa : Pr
  c : Nat → Option (List UInt8)
  nx : Nat
def takePg (x : En) (k : Fk) (pg : Int) : Fk :=
  if x.i = 1 then ⟨⟨k.ch.L, puA k.ch.A pg (slotF k.pa k.c k.nx pg).s⟩, (slotF k.pa k.c k.nx pg).p, (slotF k.pa k.c k.nx pg).c, (slotF k.pa k.c k.nx pg).nx⟩
  else match ownF k.c k.pa pg with
    | some b => ⟨⟨k.ch.L, puA k.ch.A pg k.nx⟩, k.pa, upd k.c k.nx (some b), k.nx + 1⟩
    | none => k
def takeE (x : En) : En := if x.i = 0 then { x with sh := false } else x
def takeF (k : Fk) (x : En) : Fk :=
  if ((mapV k.ch.L x.s (takeE x) true).err = 0 ∧ x.sh = false) then (pagesE x).foldl (takePg x) ⟨⟨(mapV k.ch.L x.s (takeE x) true).l, k.ch.A⟩, k.pa, k.c, k.nx⟩
  else ⟨⟨(mapV k.ch.L x.s (takeE x) true).l, k.ch.A⟩, k.pa, k.c, k.nx⟩
def forkF (S : Fl) (p : Pr) : Fk := (forkV p.L).foldl takeF ⟨⟨[], []⟩, p, S.c, S.nx⟩
def Fl.fork (S : Fl) (id : Int) (p : Pr) : Res :=
  if S.ps.length < 16 then ⟨{ S with ps := (lowA S.ps, (forkF S p).ch) :: setP S.ps id (forkF S p).pa, c := (forkF S p).c, nx := (forkF S p).nx }, lowA S.ps, 0⟩
  else S.no 5
def Fl.exit (S : Fl) (id : Int) (p : Pr) : Res := (({ S with ps := drA S.ps id } : Fl).forget p.L).ok 0
def Fl.put (S : Fl) (o : FOp) : Res :=
  if (S.ofFile o.file o.off (isAtB o.ati && isByB o.v)).2 = 0 then ⟨{ S with F := puA S.F (o.file, o.off) (withB (S.ofFile o.file o.off (isAtB o.ati && isByB o.v)).1 o.ati o.v) }, 0, 0⟩
  else S.no (S.ofFile o.file o.off (isAtB o.ati && isByB o.v)).2
def Fl.get (S : Fl) (o : FOp) : Res := ⟨S, (S.fileByte o.file o.off o.ati).1, (S.fileByte o.file o.off o.ati).2⟩
def maySzB (n : Int) : Bool := decide (0 ≤ n ∧ n ≤ 4096)
def cutF (F : List ((Int × Int) × List UInt8)) (f lo hi : Int) : List ((Int × Int) × List UInt8) := F.filter fun n => !decide (n.1.1 = f ∧ lo ≤ n.1.2 ∧ n.1.2 < hi)
def Fl.size (S : Fl) (o : FOp) : Res :=
  if hasF S.sz o.file = true then
    if maySzB o.n = true then ⟨{ S with F := cutF S.F o.file o.n (S.sz.getD (o.file - 1).toNat 0), sz := S.sz.set (o.file - 1).toNat o.n }, 0, 0⟩ else S.no 2
  else S.no 7
def Fl.sync (S : Fl) (o : FOp) : Res := if hasF S.sz o.file = true then S.ok 0 else S.no 7
def mayB3 (lo n : Int) : Bool := decide (1 ≤ n ∧ n ≤ 4096 ∧ 0 ≤ lo ∧ lo ≤ 67108864 - n)
def pagesL (l : List En) : List (En × Int) := l.flatMap fun x => (pagesE x).map fun pg => (x, pg)
def meansL (S : Fl) (p : Pr) : List (En × Int) → Option (List (Option (List UInt8)))
  | [] => some []
  | x :: r => match S.means p x.1 x.2 with | none => none | some b => (meansL S p r).map (b :: ·)
/-- What pages mean, if all of them may be loaded; or an error. -/
def Fl.loadAll (S : Fl) (p : Pr) (lo hi : Int) : List (Option (List UInt8)) × Int :=
  if wholeB (goneE p.L lo hi) lo hi = true then
    if ((goneE p.L lo hi).any fun x => !canB x.p 1) = true then ([], 3)
    else match meansL S p (pagesL (goneE p.L lo hi)) with | some l => (l, 0) | none => ([], 4)
  else ([], 5)
structure Sd where
  p : Pr
  c : Nat → Option (List UInt8)
  nx : Nat
def sendPg (a : Int) (k : Sd) (x : Nat × Option (List UInt8)) : Sd := match x.2 with
  | none => k
  | some b => ⟨(slotF k.p k.c k.nx (a + x.1)).p, upd (slotF k.p k.c k.nx (a + x.1)).c (slotF k.p k.c k.nx (a + x.1)).s (some b), (slotF k.p k.c k.nx (a + x.1)).nx⟩
def sendF (S : Fl) (p : Pr) (a : Int) (l : List (Option (List UInt8))) : Sd := ((List.range l.length).zip l).foldl (sendPg a) ⟨p, S.c, S.nx⟩
def layO (n : Int) : FOp := ⟨0, 0, -1, n, 3, false, 0, 0, false, 0, 0, 0, 0, 0⟩
def Fl.send (S : Fl) (p : Pr) (o : FOp) : Res := match geA S.ps o.to with
  | none => S.no 7
  | some t =>
    if mayB3 o.addr o.n = true then
      if (S.loadAll p o.addr (o.addr + o.n)).2 = 0 then
        if (S.lay o.to t (layO o.n)).e = 0 then
          match geA (S.lay o.to t (layO o.n)).S.ps o.to with
          | none => S.no 7
          | some t2 => ⟨{ (S.lay o.to t (layO o.n)).S with
              ps := setP (S.lay o.to t (layO o.n)).S.ps o.to (sendF (S.lay o.to t (layO o.n)).S t2 (S.lay o.to t (layO o.n)).n (S.loadAll p o.addr (o.addr + o.n)).1).p
              c := (sendF (S.lay o.to t (layO o.n)).S t2 (S.lay o.to t (layO o.n)).n (S.loadAll p o.addr (o.addr + o.n)).1).c
              nx := (sendF (S.lay o.to t (layO o.n)).S t2 (S.lay o.to t (layO o.n)).n (S.loadAll p o.addr (o.addr + o.n)).1).nx }, (S.lay o.to t (layO o.n)).n, 0⟩
        else S.no (S.lay o.to t (layO o.n)).e
      else S.no (S.loadAll p o.addr (o.addr + o.n)).2
    else S.no 2
def namesB (k : Int) : Bool := decide (1 ≤ k ∧ k ≤ 12) || decide (k = 20)
/-- What an operation that names a process makes. -/
def Fl.actP (S : Fl) (p : Pr) (o : FOp) : Res :=
  if o.k = 1 then S.lay o.proc p o
  else if o.k = 2 then S.unmap p o
  else if o.k = 3 then S.turned o.proc p (protV p.L o.addr o.n o.prot)
  else if o.k = 4 then S.turned o.proc p (otherV p.L o.addr o.n 3 o.how 2 false)
  else if o.k = 5 then S.advise p o
  else if o.k = 6 then S.turned o.proc p (otherV p.L o.addr o.n 5 0 1 true)
  else if o.k = 7 then S.turned o.proc p (otherV p.L o.addr o.n 5 0 1 false)
  else if o.k = 8 then S.load p o
  else if o.k = 9 then S.store p o
  else if o.k = 10 then S.fork o.proc p
  else if o.k = 11 then S.exit o.proc p
  else if o.k = 12 then S.lend p o
  else S.send p o
def Fl.act (S : Fl) (o : FOp) : Res :=
  if namesB o.k = true then match geA S.ps o.proc with | none => S.no 7 | some p => S.actP p o
  else if o.k = 13 then S.peek o
  else if o.k = 14 then S.back o
  else if o.k = 15 then S.put o
  else if o.k = 16 then S.get o
  else if o.k = 17 then S.size o
  else if o.k = 18 then S.sync o
  else if o.k = 19 then S.ok 0
  else S.no 2
/-- The number beside an error is 0. -/
def Fl.doN (S : Fl) (o : FOp) : Int := if (S.act o).e = 0 then (S.act o).n else 0
end Go.Proofs.YtefiiooibbkffaaGreat
