/- The law's alike: the same frames, and the same bytes of tables, in both. Several spaces in one memory, the program's beside the document's; other blocks of the law's own (B). Several spaces in both: a new one, one that is closed. Several spaces in both: the calls New and Close. Layer 7's acts: their cells, what they read as. Rows of pointers, made by append; the law's acts. Several spaces in both: calls on one of them, by the call's own contract. PmapActs' last loop: what it has between two spaces closed. -/
import Derived.Test.YtlieommbomjdaaaGreatMB4
import Derived.Test.YtlieommbomjdaaaGreatWB1
import Derived.Test.YtlieommbomjdaaaGreatFB1
namespace Go.Proofs.YtlieommbomjdaaaGreat
open Go.ChangeShapes Go.WideShapes Go.ChangeAt Go.RowKit Go.Deep
open Extern.Stop (cell)
set_option linter.unusedVariables false

theorem neq_same6 (w : World) (a b c d e : Int) : (binOp .neq 99 (.agg #[.int .i64 a, .int .i64 b, .int .i64 c, .int .i64 d, .int .i64 e]) (.agg #[.int .i64 a, .int .i64 b, .int .i64 c, .int .i64 d, .int .i64 e])).run Tryz.prog w = .ok (.bool false) w := by
  go_simp
  try simp

section
variable {w0 w w' : World} {m d n p : Nat} {O : List Nat} {rb fb pb gb : Nat} {R : List Nat} {W : WoF} {xs : List FrV}
theorem PM.get (h : PM w0 w m d n p O W xs) (i : Int) : Calls Tryz.prog 54 #[.pointer (some ⟨p, 0, none⟩), .int .i64 i] w fun e w' => e = .returned (getV (getF xs i)) ∧ w.grownBy w' none := by
  obtain ⟨g, c, _, hp⟩ := h.pool
  exact fr_get hp i

/-- A table's page, in both. -/
theorem pages_same (h : PM w0 w m d n p O W xs) (h' : DM w0 w rb fb n R pb gb W xs) (hM : MOk n ⟨W, xs, 0⟩ noE) (i : Nat) (x : FrV) (hx : xs[i]? = some x) (hc : x.cl = 1) :
    ∃ (P : Nat) (bs : List UInt8) (cap : Nat), w.cell? ⟨rb, 0, none⟩ = some (.slice (some ⟨fb, 0, none⟩) n cap) ∧ w.cell? ⟨fb, i, none⟩ = some (.slice (some ⟨P, 0, none⟩) 4096 4096) ∧ bs.length = 4096 ∧
      (∀ w', w.grownBy w' none → Src w' (some ⟨P, 0, none⟩) 4096 bs) ∧
      ∀ w', w.grownBy w' none → Calls Tryz.prog 56 #[.pointer (some ⟨m, 0, none⟩), .int .i64 i] w' fun e w2 => e = .returned (.slice (some ⟨w'.heap.size, 0, none⟩) 4096 4096) ∧ w'.grownBy w2 none ∧ Src w2 (some ⟨w'.heap.size, 0, none⟩) 4096 bs := by
  have hi : i < n := by rw [← h.num]; exact (List.getElem?_eq_some_iff.1 hx).1
  obtain ⟨M, hS, hag⟩ := h.mem
  obtain ⟨L, c, hR, hL, hP⟩ := h'.ex
  obtain ⟨cap, hc0, _⟩ := hR.mem.cellR
  obtain ⟨P, hP1, hP2, hP3⟩ := hR.mem.row i hi
  have htab : ∃ a l, Tab (getF xs) (i : Int) a l := by
    have hg : getF xs (i : Int) = some x := getF_at hx
    rcases hM.tree.all i x hg with e | ⟨a, l, e, _⟩
    · rw [e] at hc; exact absurd hc (by decide)
    · exact ⟨a, l, by unfold Tab; rw [hg, e]⟩
  obtain ⟨a, l, ht⟩ := htab
  have hpg : pageOf L i = pageOf M i := page_eq hR.mem.len hS.len i hi fun j hj => by rw [hag _ _ _ ht j hj, ← hL]
  refine ⟨P, pageOf L i, cap, hc0, hP2, pageOf_length hR.mem.len i hi, fun w' g => ?_, fun w' g => ?_⟩
  · have := src_block ((g.block P (Array.getElem?_eq_some_iff.1 hP3).1 (by simp)).trans hP3)
    rwa [pageOf_length hR.mem.len i hi] at this
  · refine (pageE (hS.grow g) (i : Int) i rfl hi).mono ?_
    rintro e w2 ⟨rfl, _, g2, hb⟩
    refine ⟨rfl, g2, ?_⟩
    have := src_block hb
    rw [← hpg] at this
    rwa [pageOf_length hR.mem.len i hi] at this

set_option maxRecDepth 100000 in
set_option maxHeartbeats 4000000 in
theorem alike_walk (h : PM w0 w m d n p O W xs) (h' : DM w0 w rb fb n R pb gb W xs) (hM : MOk n ⟨W, xs, 0⟩ noE) :
    Calls Tryz.prog 23 #[.pointer (some ⟨m, 0, none⟩), .pointer (some ⟨p, 0, none⟩), .pointer (some ⟨rb, 0, none⟩), .pointer (some ⟨pb, 0, none⟩)] w fun e w' => e = .returned (.bool true) ∧ w.grownBy w' none := by
  have HP := Lib.hid h
  have HD := Lib.hid h'
  have HMk := Lib.hid hM
  have hn : n ≤ 256 := h'.le
  have hnum := h.num
  obtain ⟨cap, hcap⟩ : ∃ cap, ∀ w', w.grownBy w' none → w'.cell? ⟨rb, 0, none⟩ = some (.slice (some ⟨fb, 0, none⟩) n cap) := by
    obtain ⟨L, c, hR, _⟩ := h'.ex
    obtain ⟨cap, hc0, _⟩ := hR.mem.cellR
    exact ⟨cap, fun w' g => g.cell hc0 (by simp)⟩
  have HCap := Lib.hid hcap
  have c0 := hcap w (grown_refl _ _)
  have hneq := neq_same6
  clear h h' hM hcap
  go_enter Tryz.func23, Tryz.ntmps23
  go_wp2_with fail
  go_loopw [9, 10, 11, 17] (fun _ _ _ iv wr => ∃ i : Nat, i ≤ n ∧ iv = .int .i64 i ∧ Hid (w.grownBy wr none)) (fun _ _ _ iv _ => n - (intOf iv).toNat)
  case atStart => exact ⟨0, by omega, rfl, grown_refl _ _⟩
  case round =>
    obtain ⟨i, hi, rfl, HG⟩ := hrel
    by_cases hlt : i < n
    · obtain ⟨x, hx⟩ : ∃ x, xs[i]? = some x := ⟨_, List.getElem?_eq_getElem (by omega)⟩
      have hget := (HP.out.grow HG.out).get (i : Int)
      rw [show getF xs (i : Int) = some x from getF_at hx] at hget
      have HX := Lib.hid hx
      obtain ⟨xc, xo, xi, xw, xl⟩ := x
      have HGt := Lib.hid (show Calls Tryz.prog 54 #[.pointer (some ⟨p, 0, none⟩), .int .i64 i] wr fun e w' => e = .returned (.tuple #[.agg #[.int .i64 xc, .int .i64 xo, .int .i64 xi, .int .i64 xw, .int .i64 xl], .bool true]) ∧ wr.grownBy w' none from hget)
      clear hget hx
      go_wp2_with fail
      refine HGt.out.mono ?_
      rintro e w2 ⟨rfl, g2⟩
      have gz := grown_trans (grown_trans HG.out g2) (World.grownBy_alloc w2 (.cells #[.int .i64 xc, .int .i64 xo, .int .i64 xi, .int .i64 xw, .int .i64 xl] 96 (0, 0)) none)
      have hB := FrB.new w2 96 ⟨xc, xo, xi, xw, xl⟩
      simp only at hB
      obtain ⟨L, c, hR, hL, hRP⟩ := (HD.out.grow gz).ex
      have HB := Lib.hid hB
      have HRP := Lib.hid hRP
      have HGz := Lib.hid gz
      by_cases hc : xc = 1
      · obtain ⟨P, bs, cap2, hcp, hfb, hbl, hsrc, hpg⟩ := pages_same (HP.out.grow gz) (HD.out.grow gz) HMk.out i _ HX.out hc
        have hcap2 : cap2 = cap := by
          have := HCap.out _ gz
          rw [hcp] at this
          simpa using this
        subst hcap2
        have b1 : (xc == 1) = true := by simp [hc]
        have hcells : ∀ W', (w2.alloc (.cells #[.int .i64 xc, .int .i64 xo, .int .i64 xi, .int .i64 xw, .int .i64 xl] 96 (0, 0))).grownBy W' none →
            (W'.cell? ⟨w2.heap.size, 0, none⟩ = some (.int .i64 xc) ∧ W'.cell? ⟨w2.heap.size, 1, none⟩ = some (.int .i64 xo) ∧ W'.cell? ⟨w2.heap.size, 2, none⟩ = some (.int .i64 xi) ∧ W'.cell? ⟨w2.heap.size, 3, none⟩ = some (.int .i64 xw) ∧ W'.cell? ⟨w2.heap.size, 4, none⟩ = some (.int .i64 xl)) ∧
            W'.cell? ⟨pb, 0, none⟩ = some (.slice (some ⟨gb, 0, none⟩) xs.length c) ∧
            (W'.cell? ⟨gb, i * 5, none⟩ = some (.int .i64 xc) ∧ W'.cell? ⟨gb, i * 5 + 1, none⟩ = some (.int .i64 xo) ∧ W'.cell? ⟨gb, i * 5 + 2, none⟩ = some (.int .i64 xi) ∧ W'.cell? ⟨gb, i * 5 + 3, none⟩ = some (.int .i64 xw) ∧ W'.cell? ⟨gb, i * 5 + 4, none⟩ = some (.int .i64 xl)) ∧
            W'.cell? ⟨rb, 0, none⟩ = some (.slice (some ⟨fb, 0, none⟩) n cap2) ∧ W'.cell? ⟨fb, i, none⟩ = some (.slice (some ⟨P, 0, none⟩) 4096 4096) := fun W' g => ⟨(hB.grow g).at, (HRP.out.grow g).at.1, (HRP.out.grow g).fr HX.out, g.cell hcp (by simp), g.cell hfb (by simp)⟩
        have HK := Lib.hid hcells
        have HSr := Lib.hid hsrc
        have HBt := Lib.hid (show (bs == bs) = true from by simp)
        rw [hnum] at HK
        have gd := Lib.hid (grown_drew1 (w2.alloc (.cells #[.int .i64 xc, .int .i64 xo, .int .i64 xi, .int .i64 xw, .int .i64 xl] 96 (0, 0))))
        have hk := HK.out _ gd.out
        have hsz : ((w2.alloc (.cells #[.int .i64 xc, .int .i64 xo, .int .i64 xi, .int .i64 xw, .int .i64 xl] 96 (0, 0))).drew).heap.size = w2.heap.size + 1 := by simp
        have hpg1 := hpg _ gd.out
        rw [hsz] at hpg1
        have HPg1 := Lib.hid hpg1
        have HGd := Lib.hid gd.out
        clear hsz hpg1 hsrc hpg hcells hcp hfb hB hRP hR hL hc gz
        go_wp2_with fail
        go_region_held3 (fun W' => (W'.cell? ⟨w2.heap.size, 0, none⟩ = some (.int .i64 xc) ∧ W'.cell? ⟨w2.heap.size, 1, none⟩ = some (.int .i64 xo) ∧ W'.cell? ⟨w2.heap.size, 2, none⟩ = some (.int .i64 xi) ∧ W'.cell? ⟨w2.heap.size, 3, none⟩ = some (.int .i64 xw) ∧ W'.cell? ⟨w2.heap.size, 4, none⟩ = some (.int .i64 xl)) ∧
            W'.cell? ⟨pb, 0, none⟩ = some (.slice (some ⟨gb, 0, none⟩) n c) ∧
            (W'.cell? ⟨gb, i * 5, none⟩ = some (.int .i64 xc) ∧ W'.cell? ⟨gb, i * 5 + 1, none⟩ = some (.int .i64 xo) ∧ W'.cell? ⟨gb, i * 5 + 2, none⟩ = some (.int .i64 xi) ∧ W'.cell? ⟨gb, i * 5 + 3, none⟩ = some (.int .i64 xw) ∧ W'.cell? ⟨gb, i * 5 + 4, none⟩ = some (.int .i64 xl)) ∧
            W'.cell? ⟨rb, 0, none⟩ = some (.slice (some ⟨fb, 0, none⟩) n cap2) ∧ W'.cell? ⟨fb, i, none⟩ = some (.slice (some ⟨P, 0, none⟩) 4096 4096)) (with_reducible exact hk)
          (first
            | (go_at_call 56; (with_reducible refine (HPg1.out.mono ?_)); rintro e w5 ⟨rfl, g5, s5⟩; replace HGd := Lib.hid (grown_trans HGd.out g5); replace hk := HK.out _ HGd.out; have HS5 := Lib.hid s5; clear g5 s5)
            | (go_at_call 55; (with_reducible refine ((bytesEq HS5.out (HSr.out _ HGd.out) _ _ true HBt.out).mono ?_)); rintro e w6 ⟨rfl, e6⟩; subst e6))
        all_goals
          clear hk
          go_wp2_with fail
          go_roundw
          case rel => exact ⟨i + 1, by omega, by go_num, grown_trans HGz.out HGd.out⟩
          case measure => simp [intOf]; omega
      · have b1 : (xc == 1) = false := by simpa using hc
        have hb := hB.at
        obtain ⟨y0, y1, y2, y3, y4⟩ := hb
        have hpc := hRP.at.1
        obtain ⟨f0, f1, f2, f3, f4⟩ := hRP.fr HX.out
        rw [hnum] at hpc
        clear hB hRP hR hL hc gz
        go_wp2_with fail
        go_quiet (fail)
        go_wp2_with fail
        go_roundw
        case rel => exact ⟨i + 1, by omega, by go_num, grown_trans HGz.out (grown_drewN _ _ _)⟩
        case measure => simp [intOf]; omega
    · obtain rfl : i = n := by omega
      go_wp2_with fail
      go_ret
      exact ⟨rfl, HG.out⟩
end
end Go.Proofs.YtlieommbomjdaaaGreat

namespace Go.Proofs.YtlieommbomjdaaaGreat
open Go.ChangeShapes Go.WideShapes Go.ChangeAt Go.RowKit Go.Deep
set_option linter.unusedVariables false

/-- A space in both: the program's block and its blocks; the document's; its number, root, how many tables. -/
structure Sp7 where
  x : Nat
  OX : List Nat
  y : Nat
  a : Int
  r : Int
  N : Int

/-! ### the model -/
structure MSt (n : Nat) (W : WoF) (xs : List FrV) (l : List Sp7) : Prop where
  ok : MOk n ⟨W, xs, 0⟩ noE
  root : ∀ q, q ∈ l → Tab (getF xs) q.r q.a 0
  N : ∀ q, q ∈ l → q.N = cntF xs q.a
  a : ∀ q, q ∈ l → okI q.a
  own : ∀ b, (∀ q, q ∈ l → q.a ≠ b) → cntF xs b = 0
  uniq : ∀ (i j : Nat) (q q' : Sp7), l[i]? = some q → l[j]? = some q' → q.a = q'.a → i = j
theorem MOk.any {n : Nat} {W : WoF} {xs : List FrV} {N : Int} {E : Int → Prop} (h : MOk n ⟨W, xs, N⟩ E) (N' : Int) : MOk n ⟨W, xs, N'⟩ E := ⟨h.tree, h.len, h.le⟩
theorem mem_set_cases {α : Type} {l : List α} {i : Nat} {q q' x : α} (hq : l[i]? = some q) (hx : x ∈ l.set i q') : x = q' ∨ ∃ j, j ≠ i ∧ l[j]? = some x := by
  obtain ⟨j, hj⟩ := List.getElem?_of_mem hx
  by_cases e : j = i
  · subst e
    rw [List.getElem?_set_self (List.getElem?_eq_some_iff.1 hq).1] at hj
    exact .inl (Option.some.inj hj).symm
  · rw [List.getElem?_set_ne (fun h => e h.symm)] at hj
    exact .inr ⟨j, e, hj⟩
theorem get_set_cases {α : Type} {l : List α} {i j : Nat} {q q' x : α} (hq : l[i]? = some q) (hx : (l.set i q')[j]? = some x) : (j = i ∧ x = q') ∨ (j ≠ i ∧ l[j]? = some x) := by
  by_cases e : j = i
  · subst e
    rw [List.getElem?_set_self (List.getElem?_eq_some_iff.1 hq).1] at hx
    exact .inl ⟨rfl, (Option.some.inj hx).symm⟩
  · rw [List.getElem?_set_ne (fun h => e h.symm)] at hx
    exact .inr ⟨e, hx⟩

section
variable {n : Nat} {W : WoF} {xs : List FrV} {l : List Sp7} {i : Nat} {q q' : Sp7} {s' : MS}
theorem MSt.inv (h : MSt n W xs l) (hq : l[i]? = some q) : Inv7 n ⟨W, xs, q.N⟩ q.a q.r :=
  ⟨h.ok.any _, h.root q (List.mem_of_getElem? hq), h.N q (List.mem_of_getElem? hq), h.a q (List.mem_of_getElem? hq)⟩
theorem MSt.step (h : MSt n W xs l) (hq : l[i]? = some q) (h1 : MOk n s' noE) (h2 : Only q.a ⟨W, xs, q.N⟩ s') (h3 : Tab (getF s'.xs) q.r q.a 0) (h4 : Cnt q.a ⟨W, xs, q.N⟩ s') (ea : q'.a = q.a) (er : q'.r = q.r) (eN : q'.N = s'.N) : MSt n s'.W s'.xs (l.set i q') := by
  have hqm := List.mem_of_getElem? hq
  have other : ∀ j q2, j ≠ i → l[j]? = some q2 → q2.a ≠ q.a := fun j q2 hj h2 e => hj (h.uniq j i q2 q h2 hq e)
  refine ⟨h1.any 0, fun q2 hm => ?_, fun q2 hm => ?_, fun q2 hm => ?_, fun b hb => ?_, fun j k q2 q3 hj hk e => ?_⟩
  · rcases mem_set_cases hq hm with rfl | ⟨j, hj, hm⟩
    · rw [ea, er]; exact h3
    · have ht := h.root q2 (List.mem_of_getElem? hm)
      obtain ⟨e1, _⟩ := h2 q2.r (fun l' hl' => other j q2 hj hm (ht.eq hl').1) (fun e => ht.notFree e)
      unfold Tab at ht ⊢
      rw [e1]; exact ht
  · rcases mem_set_cases hq hm with rfl | ⟨j, hj, hm⟩
    · rw [ea, eN]
      have := h4.own
      have hN : q.N = cntF xs q.a := h.N q hqm
      simp only at this
      omega
    · rw [h.N q2 (List.mem_of_getElem? hm)]
      exact (h4.oth q2.a (other j q2 hj hm)).symm
  · rcases mem_set_cases hq hm with rfl | ⟨j, hj, hm⟩
    · rw [ea]; exact h.a q hqm
    · exact h.a q2 (List.mem_of_getElem? hm)
  · have hbq : b ≠ q.a := fun e => hb q' (List.mem_of_getElem? (List.getElem?_set_self (List.getElem?_eq_some_iff.1 hq).1)) (by rw [ea, e])
    rw [h4.oth b hbq]
    refine h.own b fun q2 hm => ?_
    obtain ⟨j, hj⟩ := List.getElem?_of_mem hm
    by_cases e : j = i
    · subst e; rw [hq] at hj; cases hj; exact fun e => hbq e.symm
    · exact hb q2 (List.mem_of_getElem? (by rw [List.getElem?_set_ne (fun h => e h.symm)]; exact hj))
  · rcases get_set_cases hq hj with ⟨rfl, rfl⟩ | ⟨hj1, hj2⟩ <;> rcases get_set_cases hq hk with ⟨rfl, rfl⟩ | ⟨hk1, hk2⟩
    · rfl
    · rw [ea] at e; exact (other k q3 hk1 hk2 e.symm).elim
    · rw [ea] at e; exact (other j q2 hj1 hj2 e).elim
    · exact h.uniq j k q2 q3 hj2 hk2 e
end

/-! ### the program's, the document's -/
structure PSt (S : SpP) (w0 w : World) (m d n p : Nat) (O : List Nat) (W : WoF) (xs : List FrV) (l : List Sp7) : Prop where
  pm : PM w0 w m d n p O W xs
  sp : ∀ q, q ∈ l → S w q.x m p q.a q.r q.N q.OX
  xge : ∀ q, q ∈ l → ∀ b, b ∈ q.OX → w0.heap.size ≤ b
  apart : ∀ q, q ∈ l → ∀ b, b ∈ q.OX → b ∉ m :: d :: O
  apart2 : ∀ (i j : Nat) (q q' : Sp7), l[i]? = some q → l[j]? = some q' → i ≠ j → ∀ b, b ∈ q.OX → b ∉ q'.OX
def PB (m d : Nat) (O : List Nat) (l : List Sp7) : List Nat := m :: d :: (O ++ l.flatMap Sp7.OX)
structure DSt (w0 w : World) (rb fb n : Nat) (R : List Nat) (pb gb : Nat) (W : WoF) (xs : List FrV) (l : List Sp7) : Prop where
  dm : DM w0 w rb fb n R pb gb W xs
  map : ∀ q, q ∈ l → MapB w q.y rb pb q.a q.r q.N
  yge : ∀ q, q ∈ l → w0.heap.size ≤ q.y
  apart : ∀ q, q ∈ l → q.y ∉ pb :: gb :: rb :: fb :: R
  apart2 : ∀ (i j : Nat) (q q' : Sp7), l[i]? = some q → l[j]? = some q' → i ≠ j → q.y ≠ q'.y
def DB (rb fb : Nat) (R : List Nat) (pb gb : Nat) (l : List Sp7) : List Nat := pb :: gb :: rb :: fb :: (R ++ l.map Sp7.y)

section
variable {S : SpP} {Z : World → Nat → List Nat → Prop} {w0 w w' : World} {m d n p : Nat} {O : List Nat} {rb fb pb gb : Nat} {R : List Nat} {W : WoF} {xs : List FrV} {l : List Sp7} {i : Nat} {q q' : Sp7} {s' : MS} {O2 : List Nat}
theorem PB_mem {b : Nat} : b ∈ PB m d O l ↔ b = m ∨ b = d ∨ b ∈ O ∨ ∃ q, q ∈ l ∧ b ∈ q.OX := by
  unfold PB
  simp only [List.mem_cons, List.mem_append, List.mem_flatMap]
theorem DB_mem {b : Nat} : b ∈ DB rb fb R pb gb l ↔ b ∈ pb :: gb :: rb :: fb :: R ∨ ∃ q, q ∈ l ∧ b = q.y := by
  unfold DB
  simp only [List.mem_cons, List.mem_append, List.mem_map]
  constructor
  · rintro (h | h | h | h | h | ⟨q, h1, h2⟩)
    · exact .inl (.inl h)
    · exact .inl (.inr (.inl h))
    · exact .inl (.inr (.inr (.inl h)))
    · exact .inl (.inr (.inr (.inr (.inl h))))
    · exact .inl (.inr (.inr (.inr (.inr h))))
    · exact .inr ⟨q, h1, h2.symm⟩
  · rintro ((h | h | h | h | h) | ⟨q, h1, h2⟩)
    · exact .inl h
    · exact .inr (.inl h)
    · exact .inr (.inr (.inl h))
    · exact .inr (.inr (.inr (.inl h)))
    · exact .inr (.inr (.inr (.inr (.inl h))))
    · exact .inr (.inr (.inr (.inr (.inr ⟨q, h1, h2.symm⟩))))
theorem PM.mge (h : PM w0 w m d n p O W xs) : w0.heap.size ≤ m := by
  obtain ⟨⟨M, h1, _⟩, _⟩ := h
  exact h1.mge
theorem PSt.ge (h : PSt S w0 w m d n p O W xs l) : ∀ b, b ∈ PB m d O l → w0.heap.size ≤ b := by
  intro b hb
  rcases PB_mem.1 hb with rfl | rfl | hb | ⟨q, hq, hb⟩
  · exact h.pm.mge
  · exact h.pm.dge
  · exact h.pm.oge b hb
  · exact h.xge q hq b hb
theorem PSt.lt (H : PmOk S Z) (h : PSt S w0 w m d n p O W xs l) : ∀ b, b ∈ PB m d O l → b < w.heap.size := by
  intro b hb
  rcases PB_mem.1 hb with rfl | rfl | hb | ⟨q, hq, hb⟩
  · exact h.pm.lt b (by simp)
  · exact h.pm.lt b (by simp)
  · exact h.pm.lt b (by simp [hb])
  · exact H.lt (h.sp q hq) b hb
theorem DSt.lt (h : DSt w0 w rb fb n R pb gb W xs l) : ∀ b, b ∈ DB rb fb R pb gb l → b < w.heap.size := by
  intro b hb
  rcases DB_mem.1 hb with hb | ⟨q, hq, rfl⟩
  · exact h.dm.lt b hb
  · exact (h.map q hq).lt
theorem DM.gge {w0 w : World} {rb fb n pb gb : Nat} {R : List Nat} {W : WoF} {xs : List FrV} (h : DM w0 w rb fb n R pb gb W xs) : w0.heap.size ≤ rb ∧ w0.heap.size ≤ fb := by
  obtain ⟨⟨L, c, h1, _⟩, _⟩ := h
  exact ⟨h1.rge, h1.fge⟩
/-- Whatever turns nothing of the program's. -/
theorem PSt.turn (H : PmOk S Z) (h : PSt S w0 w m d n p O W xs l) (g : Turn O2 w w') (ho : ∀ b, b ∈ PB m d O l → b ∉ O2) (h0 : ∀ b, b ∈ O2 → w0.heap.size ≤ b) : PSt S w0 w' m d n p O W xs l :=
  ⟨h.pm.turn g (fun b hb => ho b (PB_mem.2 (by simp only [List.mem_cons] at hb; rcases hb with e | e | e; exact .inl e; exact .inr (.inl e); exact .inr (.inr (.inl e))))) h0,
    fun q hq => H.kept (h.sp q hq) g.size fun b hb => g.block b (H.lt (h.sp q hq) b hb) (ho b (PB_mem.2 (.inr (.inr (.inr ⟨q, hq, hb⟩))))), h.xge, h.apart, h.apart2⟩
theorem DSt.turn (h : DSt w0 w rb fb n R pb gb W xs l) (g : Turn O2 w w') (ho : ∀ b, b ∈ DB rb fb R pb gb l → b ∉ O2) (h0 : ∀ b, b ∈ O2 → w0.heap.size ≤ b) : DSt w0 w' rb fb n R pb gb W xs l :=
  ⟨h.dm.turn g (fun b hb => ho b (DB_mem.2 (.inl hb))) h0, fun q hq => (g.block q.y (h.map q hq).lt (ho q.y (DB_mem.2 (.inr ⟨q, hq, rfl⟩)))).trans (h.map q hq), h.yge, h.apart, h.apart2⟩
theorem PSt.px (h : PSt S w0 w m d n p O W xs l) (hq : l[i]? = some q) : PX S w0 w m d n p O q.x q.OX q.a q.r ⟨W, xs, q.N⟩ :=
  ⟨h.pm, h.sp q (List.mem_of_getElem? hq), h.xge q (List.mem_of_getElem? hq), h.apart q (List.mem_of_getElem? hq)⟩
theorem DSt.dx (h : DSt w0 w rb fb n R pb gb W xs l) (hq : l[i]? = some q) : DX w0 w rb fb n R pb gb q.y q.a q.r ⟨W, xs, q.N⟩ :=
  ⟨h.dm, h.map q (List.mem_of_getElem? hq), h.yge q (List.mem_of_getElem? hq), h.apart q (List.mem_of_getElem? hq)⟩

/-- A call on one of the program's spaces. -/
theorem PSt.step (H : PmOk S Z) (h : PSt S w0 w m d n p O W xs l) (hq : l[i]? = some q) (k : PXL S w0 w w' m d n p O q.x q.OX q.a q.r s') :
    ∃ O' OX', PSt S w0 w' m d n p O' s'.W s'.xs (l.set i ⟨q.x, OX', q.y, q.a, q.r, s'.N⟩) ∧ Turn (PB m d O l) w w' ∧ ∀ b, b ∈ PB m d O' (l.set i ⟨q.x, OX', q.y, q.a, q.r, s'.N⟩) → b ∈ PB m d O l ∨ w.heap.size ≤ b := by
  obtain ⟨O', OX', k1, k2, k3, k4⟩ := k
  have hqm := List.mem_of_getElem? hq
  have hlt : ∀ q2, q2 ∈ l → ∀ b, b ∈ q2.OX → b < w.heap.size := fun q2 h2 b hb => H.lt (h.sp q2 h2) b hb
  refine ⟨O', OX', ⟨k1.pm, fun q2 hm => ?_, fun q2 hm => ?_, fun q2 hm => ?_, fun j1 j2 q2 q3 h2 h3 hne b hb hb3 => ?_⟩, k2.mono fun b hb => ?_, fun b hb => ?_⟩
  · rcases mem_set_cases hq hm with rfl | ⟨j, hj, hm⟩
    · exact k1.sp
    · have hm2 := List.mem_of_getElem? hm
      refine H.kept (h.sp q2 hm2) k2.size fun b hb => k2.block b (hlt q2 hm2 b hb) fun hx => ?_
      simp only [List.mem_cons, List.mem_append] at hx
      rcases hx with e | hx | hx
      · exact h.apart q2 hm2 b hb (by simp [e])
      · exact h.apart q2 hm2 b hb (by simp [hx])
      · exact h.apart2 j i q2 q hm hq hj b hb hx
  · rcases mem_set_cases hq hm with rfl | ⟨j, hj, hm⟩
    · exact k1.xge
    · exact h.xge q2 (List.mem_of_getElem? hm)
  · rcases mem_set_cases hq hm with rfl | ⟨j, hj, hm⟩
    · exact k1.apart
    · have hm2 := List.mem_of_getElem? hm
      intro b hb hx
      simp only [List.mem_cons] at hx
      rcases hx with e | e | hx
      · exact h.apart q2 hm2 b hb (by simp [e])
      · exact h.apart q2 hm2 b hb (by simp [e])
      · rcases k3 b hx with e | e
        · exact h.apart q2 hm2 b hb (by simp [e])
        · have := hlt q2 hm2 b hb; omega
  · rcases get_set_cases hq h2 with ⟨e2, rfl⟩ | ⟨e2, k2'⟩ <;> rcases get_set_cases hq h3 with ⟨e3, rfl⟩ | ⟨e3, k3'⟩
    · exact hne (e2.trans e3.symm)
    · rcases k4 b hb with e | e
      · exact h.apart2 i j2 q q3 hq k3' (fun q => e3 q.symm) b e hb3
      · have := hlt q3 (List.mem_of_getElem? k3') b hb3; omega
    · rcases k4 b hb3 with e | e
      · exact h.apart2 j1 i q2 q k2' hq e2 b hb e
      · have := hlt q2 (List.mem_of_getElem? k2') b hb; omega
    · exact h.apart2 j1 j2 q2 q3 k2' k3' hne b hb hb3
  · refine PB_mem.2 ?_
    simp only [List.mem_cons, List.mem_append] at hb
    rcases hb with e | e | e
    · exact .inr (.inl e)
    · exact .inr (.inr (.inl e))
    · exact .inr (.inr (.inr ⟨q, hqm, e⟩))
  · rcases PB_mem.1 hb with e | e | e | ⟨q2, hm, e⟩
    · exact .inl (PB_mem.2 (.inl e))
    · exact .inl (PB_mem.2 (.inr (.inl e)))
    · rcases k3 b e with e | e
      · exact .inl (PB_mem.2 (.inr (.inr (.inl e))))
      · exact .inr e
    · rcases mem_set_cases hq hm with rfl | ⟨j, hj, hm⟩
      · rcases k4 b e with e | e
        · exact .inl (PB_mem.2 (.inr (.inr (.inr ⟨q, hqm, e⟩))))
        · exact .inr e
      · exact .inl (PB_mem.2 (.inr (.inr (.inr ⟨q2, List.mem_of_getElem? hm, e⟩))))
/-- A call on one of the document's. -/
theorem DSt.step (h : DSt w0 w rb fb n R pb gb W xs l) (hq : l[i]? = some q) (k : DXL w0 w w' rb fb n R pb gb q.y q.a q.r s') (ey : q'.y = q.y) (ea : q'.a = q.a) (er : q'.r = q.r) (eN : q'.N = s'.N) :
    ∃ gb', DSt w0 w' rb fb n R pb gb' s'.W s'.xs (l.set i q') ∧ Turn (DB rb fb R pb gb l) w w' ∧ ∀ b, b ∈ DB rb fb R pb gb' (l.set i q') → b ∈ DB rb fb R pb gb l ∨ w.heap.size ≤ b := by
  obtain ⟨gb', k1, k2, k3⟩ := k
  have hqm := List.mem_of_getElem? hq
  refine ⟨gb', ⟨k1.dm, fun q2 hm => ?_, fun q2 hm => ?_, fun q2 hm => ?_, fun j1 j2 q2 q3 h2 h3 hne => ?_⟩, k2.mono fun b hb => ?_, fun b hb => ?_⟩
  · rcases mem_set_cases hq hm with rfl | ⟨j, hj, hm⟩
    · rw [ey, ea, er, eN]; exact k1.map
    · have hm2 := List.mem_of_getElem? hm
      refine (k2.block q2.y (h.map q2 hm2).lt fun hx => ?_).trans (h.map q2 hm2)
      simp only [List.mem_cons] at hx
      rcases hx with e | e | hx
      · exact h.apart2 j i q2 q hm hq hj e
      · exact h.apart q2 hm2 (by simp [e])
      · exact h.apart q2 hm2 (by simp [hx])
  · rcases mem_set_cases hq hm with rfl | ⟨j, hj, hm⟩
    · rw [ey]; exact k1.xge
    · exact h.yge q2 (List.mem_of_getElem? hm)
  · rcases mem_set_cases hq hm with rfl | ⟨j, hj, hm⟩
    · rw [ey]; exact k1.apart
    · have hm2 := List.mem_of_getElem? hm
      intro hx
      simp only [List.mem_cons] at hx
      rcases hx with e | e | hx
      · exact h.apart q2 hm2 (by simp [e])
      · rcases k3 with e3 | e3
        · exact h.apart q2 hm2 (by simp [e, e3])
        · have := (h.map q2 hm2).lt; omega
      · exact h.apart q2 hm2 (by simp only [List.mem_cons]; exact .inr (.inr hx))
  · rcases get_set_cases hq h2 with ⟨e2, rfl⟩ | ⟨e2, k2'⟩ <;> rcases get_set_cases hq h3 with ⟨e3, rfl⟩ | ⟨e3, k3'⟩
    · exact (hne (e2.trans e3.symm)).elim
    · rw [ey]; exact h.apart2 i j2 q q3 hq k3' (fun q => e3 q.symm)
    · rw [ey]; exact h.apart2 j1 i q2 q k2' hq e2
    · exact h.apart2 j1 j2 q2 q3 k2' k3' hne
  · refine DB_mem.2 ?_
    simp only [List.mem_cons] at hb
    rcases hb with e | e | e
    · exact .inr ⟨q, hqm, e⟩
    · exact .inl (by simp [e])
    · exact .inl (by simp [e])
  · rcases DB_mem.1 hb with e | ⟨q2, hm, e⟩
    · simp only [List.mem_cons] at e
      rcases e with e | e | e
      · exact .inl (DB_mem.2 (.inl (by simp [e])))
      · rcases k3 with e3 | e3
        · exact .inl (DB_mem.2 (.inl (by simp [e, e3])))
        · exact .inr (by omega)
      · exact .inl (DB_mem.2 (.inl (by simp only [List.mem_cons]; exact .inr (.inr e))))
    · rcases mem_set_cases hq hm with rfl | ⟨j, hj, hm⟩
      · exact .inl (DB_mem.2 (.inr ⟨q, hqm, by rw [e, ey]⟩))
      · exact .inl (DB_mem.2 (.inr ⟨q2, List.mem_of_getElem? hm, e⟩))

/-- Both, apart, and apart from B. -/
def All7 (S : SpP) (w0 w : World) (m d n p rb fb : Nat) (R : List Nat) (pb : Nat) (B : List Nat) (W : WoF) (xs : List FrV) (l : List Sp7) (W' : WoF) (xs' : List FrV) (l' : List Sp7) : Prop :=
  ∃ O gb, PSt S w0 w m d n p O W xs l ∧ DSt w0 w rb fb n R pb gb W' xs' l' ∧ (∀ b, b ∈ DB rb fb R pb gb l' → b ∉ PB m d O l) ∧ ∀ b, b ∈ B → w0.heap.size ≤ b ∧ b < w.heap.size ∧ b ∉ PB m d O l ∧ b ∉ DB rb fb R pb gb l'
end

section
variable {S : SpP} {Z : World → Nat → List Nat → Prop} {w0 w w' : World} {m d n p rb fb pb : Nat} {R B B' : List Nat} {W W' : WoF} {xs xs' : List FrV} {l l' : List Sp7} {i : Nat} {q q' : Sp7} {s' : MS}
theorem DSt.ge {gb : Nat} (h : DSt w0 w rb fb n R pb gb W xs l) (hg : w0.heap.size ≤ gb) : ∀ b, b ∈ DB rb fb R pb gb l → w0.heap.size ≤ b := by
  intro b hb
  rcases DB_mem.1 hb with hb | ⟨q, hq, rfl⟩
  · simp only [List.mem_cons] at hb
    rcases hb with rfl | rfl | rfl | rfl | hb
    · exact h.dm.pge
    · exact hg
    · exact h.dm.gge.1
    · exact h.dm.gge.2
    · exact h.dm.Rge b hb
  · exact h.yge q hq
theorem All7.p_step (H : PmOk S Z) (h : All7 S w0 w m d n p rb fb R pb B W xs l W' xs' l') (hq : l[i]? = some q)
    (k : ∀ O, PX S w0 w m d n p O q.x q.OX q.a q.r ⟨W, xs, q.N⟩ → PXL S w0 w w' m d n p O q.x q.OX q.a q.r s') :
    ∃ OX', All7 S w0 w' m d n p rb fb R pb B s'.W s'.xs (l.set i ⟨q.x, OX', q.y, q.a, q.r, s'.N⟩) W' xs' l' ∧ ∀ b, b ∈ B → w'.heap[b]? = w.heap[b]? := by
  obtain ⟨O, gb, h1, h2, h3, h4⟩ := h
  obtain ⟨O', OX', k1, k2, k3⟩ := h1.step H hq (k O (h1.px hq))
  refine ⟨OX', ⟨O', gb, k1, h2.turn k2 h3 h1.ge, fun b hb hm => ?_, fun b hb => ?_⟩, fun b hb => k2.block b (h4 b hb).2.1 (h4 b hb).2.2.1⟩
  · rcases k3 b hm with e | e
    · exact h3 b hb e
    · have := h2.lt b hb; omega
  · obtain ⟨q1, q2, q3, q4⟩ := h4 b hb
    refine ⟨q1, Nat.lt_of_lt_of_le q2 k2.size, fun hm => ?_, q4⟩
    rcases k3 b hm with e | e
    · exact q3 e
    · omega
theorem All7.d_step (H : PmOk S Z) (h : All7 S w0 w m d n p rb fb R pb B W xs l W' xs' l') (hq : l'[i]? = some q)
    (k : ∀ gb, DX w0 w rb fb n R pb gb q.y q.a q.r ⟨W', xs', q.N⟩ → DXL w0 w w' rb fb n R pb gb q.y q.a q.r s') (ey : q'.y = q.y) (ea : q'.a = q.a) (er : q'.r = q.r) (eN : q'.N = s'.N) :
    All7 S w0 w' m d n p rb fb R pb B W xs l s'.W s'.xs (l'.set i q') ∧ ∀ b, b ∈ B → w'.heap[b]? = w.heap[b]? := by
  obtain ⟨O, gb, h1, h2, h3, h4⟩ := h
  have hk := k gb (h2.dx hq)
  obtain ⟨gb', k1, k2, k3⟩ := h2.step hq hk ey ea er eN
  have hT : Turn (q.y :: pb :: R) w w' := by obtain ⟨_, _, t, _⟩ := hk; exact t
  have hqm := List.mem_of_getElem? hq
  have h0 : ∀ b, b ∈ q.y :: pb :: R → w0.heap.size ≤ b := fun b hb => by
    simp only [List.mem_cons] at hb
    rcases hb with rfl | rfl | hb
    · exact h2.yge q hqm
    · exact h2.dm.pge
    · exact h2.dm.Rge b hb
  have hsub : ∀ b, b ∈ q.y :: pb :: R → b ∈ DB rb fb R pb gb l' := fun b hb => by
    refine DB_mem.2 ?_
    simp only [List.mem_cons] at hb
    rcases hb with rfl | rfl | hb
    · exact .inr ⟨q, hqm, rfl⟩
    · exact .inl (by simp)
    · exact .inl (by simp [hb])
  refine ⟨⟨O, gb', h1.turn H hT (fun b hb hm => h3 b (hsub b hm) hb) h0, k1, fun b hb hm => ?_, fun b hb => ?_⟩, fun b hb => hT.block b (h4 b hb).2.1 fun hm => (h4 b hb).2.2.2 (hsub b hm)⟩
  · rcases k3 b hb with e | e
    · exact h3 b e hm
    · have := h1.lt H b hm; omega
  · obtain ⟨q1, q2, q3, q4⟩ := h4 b hb
    refine ⟨q1, Nat.lt_of_lt_of_le q2 hT.size, q3, fun hm => ?_⟩
    rcases k3 b hm with e | e
    · exact q4 e
    · omega
theorem All7.grow (H : PmOk S Z) (h : All7 S w0 w m d n p rb fb R pb B W xs l W' xs' l') (g : w.grownBy w' none) : All7 S w0 w' m d n p rb fb R pb B W xs l W' xs' l' := by
  obtain ⟨O, gb, h1, h2, h3, h4⟩ := h
  exact ⟨O, gb, h1.turn H (O2 := []) (Turn.grown g) (fun _ _ hm => by cases hm) (fun _ hm => by cases hm), h2.turn (O2 := []) (Turn.grown g) (fun _ _ hm => by cases hm) (fun _ hm => by cases hm), h3, fun b hb => ⟨(h4 b hb).1, Nat.lt_of_lt_of_le (h4 b hb).2.1 g.size, (h4 b hb).2.2⟩⟩
/-- Other blocks are made. -/
theorem All7.fresh (H : PmOk S Z) (h : All7 S w0 w m d n p rb fb R pb B W xs l W' xs' l') (g : w.grownBy w' none) (hB : ∀ b, b ∈ B' → (b ∈ B ∨ w.heap.size ≤ b) ∧ b < w'.heap.size) : All7 S w0 w' m d n p rb fb R pb B' W xs l W' xs' l' := by
  have hg := h.grow H g
  obtain ⟨O, gb, h1, h2, h3, h4⟩ := h
  have hw := h1.pm.below.size
  refine ⟨O, gb, h1.turn H (O2 := []) (Turn.grown g) (fun _ _ hm => by cases hm) (fun _ hm => by cases hm), h2.turn (O2 := []) (Turn.grown g) (fun _ _ hm => by cases hm) (fun _ hm => by cases hm), h3, fun b hb => ?_⟩
  obtain ⟨k1, k2⟩ := hB b hb
  rcases k1 with k1 | k1
  · exact ⟨(h4 b k1).1, k2, (h4 b k1).2.2⟩
  · exact ⟨by omega, k2, fun hm => by have := h1.lt H b hm; omega, fun hm => by have := h2.lt b hm; omega⟩
theorem All7.low (h : All7 S w0 w m d n p rb fb R pb B W xs l W' xs' l') : w0.grownBy w none := by
  obtain ⟨O, gb, h1, _⟩ := h
  exact grown_of_below' h1.pm.below
end
end Go.Proofs.YtlieommbomjdaaaGreat

namespace Go.Proofs.YtlieommbomjdaaaGreat
open Go.ChangeShapes Go.WideShapes Go.ChangeAt Go.RowKit Go.Deep
set_option linter.unusedVariables false

/-! ### the model -/
section
variable {n : Nat} {W : WoF} {xs : List FrV} {l : List Sp7} {i : Nat} {q q' : Sp7} {s' : MS} {a : Int}
theorem cnt_none {F : List FrV} {W : WoF} {E : Int → Prop} (hT : Tree (getF F) W E) (hno : ∀ f l, ¬ Tab (getF F) f a l) : cntF F a = 0 := by
  unfold cntF
  rw [List.countP_eq_zero.2]
  · rfl
  · intro z hz hp
    simp only [Bool.and_eq_true, beq_iff_eq] at hp
    obtain ⟨i, hi⟩ := List.getElem?_of_mem hz
    have hg := getF_at hi
    rcases hT.all _ _ hg with e | ⟨b, l, e, _⟩
    · rw [e] at hp; exact absurd hp.1 (by decide)
    · have hb : b = a := by rw [e] at hp; exact hp.2
      subst hb
      exact hno i l (by unfold Tab; rw [hg, e])
theorem cnt_no_tab {F : List FrV} {f l : Int} (h : cntF F a = 0) : ¬ Tab (getF F) f a l := fun ht => by
  obtain ⟨_, _, hx⟩ := getF_some ht
  unfold cntF at h
  have h0 : F.countP (fun x => x.cl == 1 && x.ow == a) = 0 := by omega
  have := List.countP_eq_zero.1 h0 _ (List.mem_of_getElem? hx)
  simp [tabF] at this
theorem mst_nil (n : Nat) (hn : n ≤ 256) (W : WoF) : MSt n W (List.replicate n zeroF) [] := by
  refine ⟨ok_free n hn W 0, fun q hq => (List.not_mem_nil hq).elim, fun q hq => (List.not_mem_nil hq).elim, fun q hq => (List.not_mem_nil hq).elim, fun b _ => ?_, fun i j q q' hi => by simp at hi⟩
  refine cnt_none (ok_free n hn W 0).tree fun f l hf => ?_
  obtain ⟨_, _, h⟩ := getF_some hf
  exact tabF_ne (List.eq_of_mem_replicate (List.mem_of_getElem? h))
theorem get_app_cases {α : Type} {l : List α} {j : Nat} {q x : α} (hx : (l ++ [q])[j]? = some x) : (j = l.length ∧ x = q) ∨ (j < l.length ∧ l[j]? = some x) := by
  by_cases e : j < l.length
  · rw [List.getElem?_append_left e] at hx
    exact .inr ⟨e, hx⟩
  · rw [List.getElem?_append_right (by omega)] at hx
    have := (List.getElem?_eq_some_iff.1 hx).1
    simp at this
    obtain rfl : j = l.length := by omega
    simp at hx
    exact .inl ⟨rfl, hx.symm⟩
/-- A new space, if there is a frame. -/
theorem MSt.new (h : MSt n W xs l) (ha : okI a) (hno : ∀ q, q ∈ l → q.a ≠ a) :
    takeF 0 xs 1 a 0 = ⟨0, 5, xs⟩ ∨ ∃ (k : Nat) (zs : List FrV), k < n ∧ takeF 0 xs 1 a 0 = ⟨k, 0, zs⟩ ∧ ∀ x OX y, MSt n (zeroW W k) zs (l ++ [⟨x, OX, y, a, k, 1⟩]) := by
  rcases take_cases xs a 0 with e | ⟨k, hk, e⟩
  · exact .inl e
  · right
    have hlen : xs.length = n := h.ok.len
    have hc0 := h.own a hno
    have hnt : ∀ g l', ¬ Tab (getF xs) g a l' := fun g l' => cnt_no_tab hc0
    have hN : newM a (⟨W, xs, 0⟩ : MS) = ((0 : Int), (k : Int), (⟨zeroW W k, xs.set k (tabF a 0), 1⟩ : MS)) := by
      unfold newM
      simp only
      rw [e]
      rfl
    rcases h.ok.new hnt with ⟨e1, _⟩ | ⟨_, _, k1, k2, k3, k4, k5, k6, k7, k8⟩
    · rw [hN] at e1; exact absurd e1 (by show ¬ ((0 : Int) = 5); decide)
    · rw [hN] at k1 k2 k3 k4 k5 k6 k7 k8
      refine ⟨k, xs.set k (tabF a 0), by omega, e, fun x OX y => ⟨k1.any 0, fun q hq => ?_, fun q hq => ?_, fun q hq => ?_, fun b hb => ?_, fun i j q q' hi hj e => ?_⟩⟩
      · rcases List.mem_append.1 hq with hq | hq
        · have ht := h.root q hq
          obtain ⟨e1, _⟩ := k2 q.r (fun l' hl' => hnt _ _ hl') (fun e => ht.notFree e)
          unfold Tab at ht ⊢
          exact e1.trans ht
        · obtain rfl := List.mem_singleton.1 hq
          exact k3
      · rcases List.mem_append.1 hq with hq | hq
        · rw [h.N q hq]
          exact (k7 q.a (hno q hq)).symm
        · obtain rfl := List.mem_singleton.1 hq
          show (1 : Int) = cntF (xs.set k (tabF a 0)) a
          have := k6
          simp only at this
          omega
      · rcases List.mem_append.1 hq with hq | hq
        · exact h.a q hq
        · obtain rfl := List.mem_singleton.1 hq
          exact ha
      · have hba : b ≠ a := fun e => hb ⟨x, OX, y, a, k, 1⟩ (by simp) e.symm
        refine (k7 b hba).trans (h.own b fun q hq => hb q (by simp [hq]))
      · rcases get_app_cases hi with ⟨e1, rfl⟩ | ⟨e1, hi⟩ <;> rcases get_app_cases hj with ⟨e2, rfl⟩ | ⟨e2, hj⟩
        · omega
        · exact (hno q' (List.mem_of_getElem? hj) e.symm).elim
        · exact (hno q (List.mem_of_getElem? hi) e).elim
        · exact h.uniq i j q q' hi hj e
/-- The first of those that are left is closed. -/
theorem MSt.close (h : MSt n W xs (q :: l)) : MSt n W (closeM n q.r ⟨W, xs, q.N⟩).2 l := by
  obtain ⟨k1, k2, k3, k4, k5, k6⟩ := (h.ok.any q.N).close (h.root q (by simp)) 0
  generalize (closeM n q.r ⟨W, xs, q.N⟩).2 = C at *
  have hne : ∀ q2, q2 ∈ l → q2.a ≠ q.a := fun q2 h2 e => by
    obtain ⟨j, hj⟩ := List.getElem?_of_mem h2
    have := h.uniq (j + 1) 0 q2 q (by simpa using hj) (by simp) e
    omega
  refine ⟨k1, fun q2 h2 => ?_, fun q2 h2 => ?_, fun q2 h2 => h.a q2 (by simp [h2]), fun b hb => ?_, fun i j q2 q3 hi hj e => ?_⟩
  · have ht0 := h.root q2 (by simp [h2])
    have ht := ht0
    unfold Tab at ht ⊢
    rw [k3 q2.r fun l' hl' => hne q2 h2 (ht0.eq hl').1]
    exact ht
  · rw [h.N q2 (by simp [h2])]
    exact (k6 q2.a (hne q2 h2)).symm
  · by_cases e : b = q.a
    · subst e
      refine cnt_none k1.tree fun f l' hf => ?_
      by_cases hx : ∃ l2, Tab (getF xs) f q.a l2
      · obtain ⟨l2, hl2⟩ := hx
        have := k2 f l2 hl2
        exact hf.notFree this
      · have := k3 f fun l2 hl2 => hx ⟨l2, hl2⟩
        exact hx ⟨l', by unfold Tab at hf ⊢; rw [← this]; exact hf⟩
    · refine (k6 b e).trans (h.own b fun q2 h2 => ?_)
      rcases List.mem_cons.1 h2 with rfl | h2
      · exact fun e2 => e e2.symm
      · exact hb q2 h2
  · have := h.uniq (i + 1) (j + 1) q2 q3 (by simpa using hi) (by simpa using hj) e
    omega
theorem MSt.free (h : MSt n W xs []) : countF xs 0 = n := by
  refine (h.ok.all_free fun f a l hf => ?_).1
  exact cnt_no_tab (h.own a fun q hq => (List.not_mem_nil hq).elim) hf
end
end Go.Proofs.YtlieommbomjdaaaGreat

namespace Go.Proofs.YtlieommbomjdaaaGreat
open Go.ChangeShapes Go.WideShapes Go.ChangeAt Go.RowKit Go.Deep
set_option linter.unusedVariables false

section
variable {S : SpP} {Z : World → Nat → List Nat → Prop} {w0 w w' : World} {m d n p rb fb pb : Nat} {R B B' : List Nat} {W W' : WoF} {xs xs' zs : List FrV} {l l' : List Sp7} {i : Nat} {q q' : Sp7} {s' : MS} {a : Int} {k : Nat}

/-- The program's part turns: what it has then, in blocks that it had or that are new. -/
theorem All7.p_turn (h : All7 S w0 w m d n p rb fb R pb B W xs l W' xs' l') {W2 : WoF} {zs : List FrV} {l2 : List Sp7}
    (k : ∀ O, PSt S w0 w m d n p O W xs l → ∃ O', PSt S w0 w' m d n p O' W2 zs l2 ∧ Turn (PB m d O l) w w' ∧ ∀ b, b ∈ PB m d O' l2 → b ∈ PB m d O l ∨ w.heap.size ≤ b) :
    All7 S w0 w' m d n p rb fb R pb B W2 zs l2 W' xs' l' ∧ ∀ b, b ∈ B → w'.heap[b]? = w.heap[b]? := by
  obtain ⟨O, gb, h1, h2, h3, h4⟩ := h
  obtain ⟨O', k1, k2, k3⟩ := k O h1
  refine ⟨⟨O', gb, k1, h2.turn k2 h3 h1.ge, fun b hb hm => ?_, fun b hb => ?_⟩, fun b hb => k2.block b (h4 b hb).2.1 (h4 b hb).2.2.1⟩
  · rcases k3 b hm with e | e
    · exact h3 b hb e
    · have := h2.lt b hb; omega
  · obtain ⟨q1, q2, q3, q4⟩ := h4 b hb
    refine ⟨q1, Nat.lt_of_lt_of_le q2 k2.size, fun hm => ?_, q4⟩
    rcases k3 b hm with e | e
    · exact q3 e
    · omega
/-- The document's part turns. -/
theorem All7.d_turn (H : PmOk S Z) (h : All7 S w0 w m d n p rb fb R pb B W xs l W' xs' l') {W2 : WoF} {zs : List FrV} {l2 : List Sp7}
    (k : ∀ gb, DSt w0 w rb fb n R pb gb W' xs' l' → ∃ gb' O2, DSt w0 w' rb fb n R pb gb' W2 zs l2 ∧ Turn O2 w w' ∧ (∀ b, b ∈ O2 → b ∈ DB rb fb R pb gb l' ∧ w0.heap.size ≤ b) ∧ ∀ b, b ∈ DB rb fb R pb gb' l2 → b ∈ DB rb fb R pb gb l' ∨ w.heap.size ≤ b) :
    All7 S w0 w' m d n p rb fb R pb B W xs l W2 zs l2 ∧ ∀ b, b ∈ B → w'.heap[b]? = w.heap[b]? := by
  obtain ⟨O, gb, h1, h2, h3, h4⟩ := h
  obtain ⟨gb', O2, k1, k2, k3, k4⟩ := k gb h2
  refine ⟨⟨O, gb', h1.turn H k2 (fun b hb hm => h3 b (k3 b hm).1 hb) (fun b hb => (k3 b hb).2), k1, fun b hb hm => ?_, fun b hb => ?_⟩, fun b hb => k2.block b (h4 b hb).2.1 fun hm => (h4 b hb).2.2.2 (k3 b hm).1⟩
  · rcases k4 b hb with e | e
    · exact h3 b e hm
    · have := h1.lt H b hm; omega
  · obtain ⟨q1, q2, q3, q4⟩ := h4 b hb
    refine ⟨q1, Nat.lt_of_lt_of_le q2 k2.size, q3, fun hm => ?_⟩
    rcases k4 b hm with e | e
    · exact q4 e
    · omega

theorem PSt.again (H : PmOk S Z) {O O' : List Nat} {W2 : WoF} {zs : List FrV} (h : PSt S w0 w m d n p O W xs l) (k1 : PM w0 w' m d n p O' W2 zs) {OX : List Nat} (k2 : Turn (d :: (O ++ OX)) w w') (k3 : ∀ b, b ∈ O' → b ∈ O ∨ w.heap.size ≤ b) (hOX : ∀ q, q ∈ l → ∀ b, b ∈ q.OX → b ∉ OX) : PSt S w0 w' m d n p O' W2 zs l := by
  have hlt : ∀ q2, q2 ∈ l → ∀ b, b ∈ q2.OX → b < w.heap.size := fun q2 h2 b hb => H.lt (h.sp q2 h2) b hb
  refine ⟨k1, fun q2 hm => H.kept (h.sp q2 hm) k2.size fun b hb => k2.block b (hlt q2 hm b hb) fun hx => ?_, h.xge, fun q2 hm b hb hx => ?_, h.apart2⟩
  · simp only [List.mem_cons, List.mem_append] at hx
    rcases hx with e | hx | hx
    · exact h.apart q2 hm b hb (by simp [e])
    · exact h.apart q2 hm b hb (by simp [hx])
    · exact hOX q2 hm b hb hx
  · simp only [List.mem_cons] at hx
    rcases hx with e | e | hx
    · exact h.apart q2 hm b hb (by simp [e])
    · exact h.apart q2 hm b hb (by simp [e])
    · rcases k3 b hx with e | e
      · exact h.apart q2 hm b hb (by simp [e])
      · have := hlt q2 hm b hb; omega
theorem All7.newNo (H : PmOk S Z) (h : All7 S w0 w m d n p rb fb R pb B W xs l W' xs' l') (ha : okI a) (e5 : takeF 0 xs 1 a 0 = ⟨0, 5, xs⟩) :
    Calls Tryz.prog 9 #[.pointer (some ⟨m, 0, none⟩), .pointer (some ⟨p, 0, none⟩), .int .i64 a] w fun e w' => e = .returned (.tuple #[.pointer none, .int .i64 5]) ∧ All7 S w0 w' m d n p rb fb R pb B W xs l W' xs' l' ∧ ∀ b, b ∈ B → w'.heap[b]? = w.heap[b]? := by
  have h0 := h
  obtain ⟨O, gb, h1, h2, h3, h4⟩ := h0
  refine (H.newNo h1.pm a 5 ha e5 (by decide)).mono ?_
  rintro e w' ⟨rfl, O', k1, k2, k3⟩
  have hT : Turn (PB m d O l) w w' := k2.mono fun b hb => PB_mem.2 (by simp only [List.mem_cons] at hb; rcases hb with e | e; exact .inr (.inl e); exact .inr (.inr (.inl e)))
  have hP := h1.again H k1 (OX := []) (by simpa using k2) k3 (fun _ _ _ _ hm => by cases hm)
  refine ⟨rfl, ⟨O', gb, hP, h2.turn hT h3 h1.ge, fun b hb hm => ?_, fun b hb => ?_⟩, fun b hb => hT.block b (h4 b hb).2.1 (h4 b hb).2.2.1⟩
  · rcases PB_mem.1 hm with e | e | e | e
    · exact h3 b hb (PB_mem.2 (.inl e))
    · exact h3 b hb (PB_mem.2 (.inr (.inl e)))
    · rcases k3 b e with e | e
      · exact h3 b hb (PB_mem.2 (.inr (.inr (.inl e))))
      · have := h2.lt b hb; omega
    · exact h3 b hb (PB_mem.2 (.inr (.inr (.inr e))))
  · obtain ⟨q1, q2, q3, q4⟩ := h4 b hb
    refine ⟨q1, Nat.lt_of_lt_of_le q2 hT.size, fun hm => ?_, q4⟩
    rcases PB_mem.1 hm with e | e | e | e
    · exact q3 (PB_mem.2 (.inl e))
    · exact q3 (PB_mem.2 (.inr (.inl e)))
    · rcases k3 b e with e | e
      · exact q3 (PB_mem.2 (.inr (.inr (.inl e))))
      · omega
    · exact q3 (PB_mem.2 (.inr (.inr (.inr e))))
theorem All7.newOk (H : PmOk S Z) (h : All7 S w0 w m d n p rb fb R pb B W xs l W' xs' l') (hM : MOk n ⟨W, xs, 0⟩ noE) (ha : okI a) (hk : k < n) (et : takeF 0 xs 1 a 0 = ⟨k, 0, zs⟩) :
    Calls Tryz.prog 9 #[.pointer (some ⟨m, 0, none⟩), .pointer (some ⟨p, 0, none⟩), .int .i64 a] w fun e w' => ∃ x OX, e = .returned (.tuple #[.pointer (some ⟨x, 0, none⟩), .int .i64 0]) ∧ (∀ y, All7 S w0 w' m d n p rb fb R pb B (zeroW W k) zs (l ++ [⟨x, OX, y, a, k, 1⟩]) W' xs' l') ∧ ∀ b, b ∈ B → w'.heap[b]? = w.heap[b]? := by
  have h0 := h
  obtain ⟨O, gb, h1, h2, h3, h4⟩ := h0
  refine (H.newOk h1.pm hM a k zs ha hk et).mono ?_
  rintro e w' ⟨x, O', OX, rfl, k1, k2, k3, k4⟩
  have hT : Turn (PB m d O l) w w' := k2.mono fun b hb => PB_mem.2 (by simp only [List.mem_cons] at hb; rcases hb with e | e; exact .inr (.inl e); exact .inr (.inr (.inl e)))
  have hP := h1.again H k1.pm (OX := []) (by simpa using k2) k3 (fun _ _ _ _ hm => by cases hm)
  have hnew : ∀ y b, b ∈ PB m d O' (l ++ [⟨x, OX, y, a, k, 1⟩]) → b ∈ PB m d O l ∨ w.heap.size ≤ b := fun y b hb => by
    rcases PB_mem.1 hb with e | e | e | ⟨q, hq, e⟩
    · exact .inl (PB_mem.2 (.inl e))
    · exact .inl (PB_mem.2 (.inr (.inl e)))
    · rcases k3 b e with e | e
      · exact .inl (PB_mem.2 (.inr (.inr (.inl e))))
      · exact .inr e
    · rcases List.mem_append.1 hq with hq | hq
      · exact .inl (PB_mem.2 (.inr (.inr (.inr ⟨q, hq, e⟩))))
      · obtain rfl := List.mem_singleton.1 hq
        exact .inr (k4 b e)
  refine ⟨x, OX, rfl, fun y => ⟨O', gb, ⟨k1.pm, fun q hq => ?_, fun q hq => ?_, fun q hq => ?_, fun i j q q' hi hj hne b hb hb2 => ?_⟩, h2.turn hT h3 h1.ge, fun b hb hm => ?_, fun b hb => ?_⟩, fun b hb => hT.block b (h4 b hb).2.1 (h4 b hb).2.2.1⟩
  · rcases List.mem_append.1 hq with hq | hq
    · exact hP.sp q hq
    · obtain rfl := List.mem_singleton.1 hq
      exact k1.sp
  · rcases List.mem_append.1 hq with hq | hq
    · exact h1.xge q hq
    · obtain rfl := List.mem_singleton.1 hq
      exact k1.xge
  · rcases List.mem_append.1 hq with hq | hq
    · exact hP.apart q hq
    · obtain rfl := List.mem_singleton.1 hq
      exact k1.apart
  · rcases get_app_cases hi with ⟨e1, rfl⟩ | ⟨e1, hi'⟩ <;> rcases get_app_cases hj with ⟨e2, rfl⟩ | ⟨e2, hj'⟩
    · omega
    · have := H.lt (h1.sp q' (List.mem_of_getElem? hj')) b hb2
      have := k4 b hb
      omega
    · have := H.lt (h1.sp q (List.mem_of_getElem? hi')) b hb
      have := k4 b hb2
      omega
    · exact h1.apart2 i j q q' hi' hj' hne b hb hb2
  · rcases hnew y b hm with e | e
    · exact h3 b hb e
    · have := h2.lt b hb; omega
  · obtain ⟨q1, q2, q3, q4⟩ := h4 b hb
    refine ⟨q1, Nat.lt_of_lt_of_le q2 hT.size, fun hm => ?_, q4⟩
    rcases hnew y b hm with e | e
    · exact q3 e
    · omega
theorem All7.dnewNo (H : PmOk S Z) (h : All7 S w0 w m d n p rb fb R pb B W xs l W' xs' l') (ha : okI a) (e5 : takeF 0 xs' 1 a 0 = ⟨0, 5, xs'⟩) :
    Calls Tryz.prog 10 #[.pointer (some ⟨rb, 0, none⟩), .pointer (some ⟨pb, 0, none⟩), .int .i64 a] w fun e w' => e = .returned (.tuple #[.pointer none, .int .i64 5]) ∧ All7 S w0 w' m d n p rb fb R pb B W xs l W' xs' l' ∧ ∀ b, b ∈ B → w'.heap[b]? = w.heap[b]? := by
  have h0 := h
  obtain ⟨O, gb, h1, h2, h3, h4⟩ := h0
  refine (dm_new_no h2.dm ha 5 e5 (by decide)).mono ?_
  rintro e w' ⟨rfl, gb', k1, k2, k3⟩
  have hlt := h2.lt
  have hpb : w0.heap.size ≤ pb := h2.dm.pge
  have hsub : ∀ b, b ∈ [pb] → b ∈ DB rb fb R pb gb l' := fun b hb => DB_mem.2 (.inl (by simp at hb; simp [hb]))
  have hnew : ∀ b, b ∈ DB rb fb R pb gb' l' → b ∈ DB rb fb R pb gb l' ∨ w.heap.size ≤ b := fun b hb => by
    rcases DB_mem.1 hb with e | e
    · simp only [List.mem_cons] at e
      rcases e with e | e | e
      · exact .inl (DB_mem.2 (.inl (by simp [e])))
      · rcases k3 with e3 | e3
        · exact .inl (DB_mem.2 (.inl (by simp [e, e3])))
        · exact .inr (by omega)
      · exact .inl (DB_mem.2 (.inl (by simp only [List.mem_cons]; exact .inr (.inr e))))
    · exact .inl (DB_mem.2 (.inr e))
  have hD : DSt w0 w' rb fb n R pb gb' W' xs' l' := by
    refine ⟨k1, fun q hq => (k2.block q.y (h2.map q hq).lt fun hm => h2.apart q hq (by simp at hm; simp [hm])).trans (h2.map q hq), h2.yge, fun q hq hm => ?_, h2.apart2⟩
    simp only [List.mem_cons] at hm
    rcases hm with e | e | e
    · exact h2.apart q hq (by simp [e])
    · rcases k3 with e3 | e3
      · exact h2.apart q hq (by simp [e, e3])
      · have := (h2.map q hq).lt; omega
    · exact h2.apart q hq (by simp only [List.mem_cons]; exact .inr (.inr e))
  refine ⟨rfl, ⟨O, gb', h1.turn H k2 (fun b hb hm => h3 b (hsub b hm) hb) (fun b hb => by simp at hb; omega), hD, fun b hb hm => ?_, fun b hb => ?_⟩, fun b hb => k2.block b (h4 b hb).2.1 fun hm => (h4 b hb).2.2.2 (hsub b hm)⟩
  · rcases hnew b hb with e | e
    · exact h3 b e hm
    · have := h1.lt H b hm; omega
  · obtain ⟨q1, q2, q3, q4⟩ := h4 b hb
    refine ⟨q1, Nat.lt_of_lt_of_le q2 k2.size, q3, fun hm => ?_⟩
    rcases hnew b hm with e | e
    · exact q4 e
    · omega
theorem PB_y (m d : Nat) (O : List Nat) (l : List Sp7) (x : Nat) (OX : List Nat) (y y' : Nat) (a r N : Int) : PB m d O (l ++ [⟨x, OX, y, a, r, N⟩]) = PB m d O (l ++ [⟨x, OX, y', a, r, N⟩]) := by
  unfold PB
  simp
theorem PSt.y {O : List Nat} {x : Nat} {OX : List Nat} {y : Nat} {a r N : Int} (h : PSt S w0 w m d n p O W xs (l ++ [⟨x, OX, y, a, r, N⟩])) (y' : Nat) : PSt S w0 w m d n p O W xs (l ++ [⟨x, OX, y', a, r, N⟩]) := by
  have hl : ∀ q, q ∈ l → q ∈ l ++ [(⟨x, OX, y, a, r, N⟩ : Sp7)] := fun q hq => by simp [hq]
  have hq0 : (⟨x, OX, y, a, r, N⟩ : Sp7) ∈ l ++ [(⟨x, OX, y, a, r, N⟩ : Sp7)] := by simp
  have hgl : (l ++ [(⟨x, OX, y, a, r, N⟩ : Sp7)])[l.length]? = some ⟨x, OX, y, a, r, N⟩ := by simp
  have hg : ∀ j q, j < l.length → l[j]? = some q → (l ++ [(⟨x, OX, y, a, r, N⟩ : Sp7)])[j]? = some q := fun j q hj hq => by rw [List.getElem?_append_left hj]; exact hq
  refine ⟨h.pm, fun q hq => ?_, fun q hq => ?_, fun q hq => ?_, fun i j q q' hi hj hne b hb hb2 => ?_⟩
  · rcases List.mem_append.1 hq with hq | hq
    · exact h.sp q (hl q hq)
    · obtain rfl := List.mem_singleton.1 hq
      exact h.sp ⟨x, OX, y, a, r, N⟩ hq0
  · rcases List.mem_append.1 hq with hq | hq
    · exact h.xge q (hl q hq)
    · obtain rfl := List.mem_singleton.1 hq
      exact h.xge ⟨x, OX, y, a, r, N⟩ hq0
  · rcases List.mem_append.1 hq with hq | hq
    · exact h.apart q (hl q hq)
    · obtain rfl := List.mem_singleton.1 hq
      exact h.apart ⟨x, OX, y, a, r, N⟩ hq0
  · rcases get_app_cases hi with ⟨e1, rfl⟩ | ⟨e1, hi'⟩ <;> rcases get_app_cases hj with ⟨e2, rfl⟩ | ⟨e2, hj'⟩
    · omega
    · exact h.apart2 l.length j _ q' hgl (hg j q' e2 hj') (by omega) b hb hb2
    · exact h.apart2 i l.length q _ (hg i q e1 hi') hgl (by omega) b hb hb2
    · exact h.apart2 i j q q' (hg i q e1 hi') (hg j q' e2 hj') hne b hb hb2
theorem All7.dnewOk (H : PmOk S Z) {x : Nat} {OX : List Nat} (h : ∀ y, All7 S w0 w m d n p rb fb R pb B W xs (l ++ [⟨x, OX, y, a, k, 1⟩]) W' xs' l') (ha : okI a) (hk : k < n) (et : takeF 0 xs' 1 a 0 = ⟨k, 0, zs⟩) :
    Calls Tryz.prog 10 #[.pointer (some ⟨rb, 0, none⟩), .pointer (some ⟨pb, 0, none⟩), .int .i64 a] w fun e w' => ∃ y, e = .returned (.tuple #[.pointer (some ⟨y, 0, none⟩), .int .i64 0]) ∧ All7 S w0 w' m d n p rb fb R pb B W xs (l ++ [⟨x, OX, y, a, k, 1⟩]) (zeroW W' k) zs (l' ++ [⟨x, OX, y, a, k, 1⟩]) ∧ ∀ b, b ∈ B → w'.heap[b]? = w.heap[b]? := by
  obtain ⟨O, gb, h1, h2, h3, h4⟩ := h 0
  refine (dm_new_ok h2.dm ha k hk zs et).mono ?_
  rintro e w' ⟨y, gb', rfl, k1, k2, k3, k4⟩
  have hlt := h2.lt
  have h0 : ∀ b, b ∈ pb :: R → w0.heap.size ≤ b := fun b hb => by
    simp only [List.mem_cons] at hb
    rcases hb with rfl | hb
    · exact h2.dm.pge
    · exact h2.dm.Rge b hb
  have hsub : ∀ b, b ∈ pb :: R → b ∈ DB rb fb R pb gb l' := fun b hb => DB_mem.2 (.inl (by simp only [List.mem_cons] at hb ⊢; rcases hb with e | e; exact .inl e; exact .inr (.inr (.inr (.inr e)))))
  have hnew : ∀ b, b ∈ DB rb fb R pb gb' (l' ++ [⟨x, OX, y, a, k, 1⟩]) → b ∈ DB rb fb R pb gb l' ∨ w.heap.size ≤ b := fun b hb => by
    rcases DB_mem.1 hb with e | ⟨q, hq, e⟩
    · simp only [List.mem_cons] at e
      rcases e with e | e | e
      · exact .inl (DB_mem.2 (.inl (by simp [e])))
      · rcases k4 with e3 | e3
        · exact .inl (DB_mem.2 (.inl (by simp [e, e3])))
        · exact .inr (by omega)
      · exact .inl (DB_mem.2 (.inl (by simp only [List.mem_cons]; exact .inr (.inr e))))
    · rcases List.mem_append.1 hq with hq | hq
      · exact .inl (DB_mem.2 (.inr ⟨q, hq, e⟩))
      · obtain rfl := List.mem_singleton.1 hq
        exact .inr (by rw [e]; exact k3)
  have hD : DSt w0 w' rb fb n R pb gb' (zeroW W' k) zs (l' ++ [⟨x, OX, y, a, k, 1⟩]) := by
    refine ⟨k1.dm, fun q hq => ?_, fun q hq => ?_, fun q hq => ?_, fun i j q q' hi hj hne => ?_⟩
    · rcases List.mem_append.1 hq with hq | hq
      · refine (k2.block q.y (h2.map q hq).lt fun hm => h2.apart q hq ?_).trans (h2.map q hq)
        simp only [List.mem_cons] at hm ⊢
        rcases hm with e | e
        · exact .inl e
        · exact .inr (.inr (.inr (.inr e)))
      · obtain rfl := List.mem_singleton.1 hq
        exact k1.map
    · rcases List.mem_append.1 hq with hq | hq
      · exact h2.yge q hq
      · obtain rfl := List.mem_singleton.1 hq
        exact k1.xge
    · rcases List.mem_append.1 hq with hq | hq
      · intro hm
        simp only [List.mem_cons] at hm
        rcases hm with e | e | e
        · exact h2.apart q hq (by simp [e])
        · rcases k4 with e3 | e3
          · exact h2.apart q hq (by simp [e, e3])
          · have := (h2.map q hq).lt; omega
        · exact h2.apart q hq (by simp only [List.mem_cons]; exact .inr (.inr e))
      · obtain rfl := List.mem_singleton.1 hq
        exact k1.apart
    · rcases get_app_cases hi with ⟨e1, rfl⟩ | ⟨e1, hi'⟩ <;> rcases get_app_cases hj with ⟨e2, rfl⟩ | ⟨e2, hj'⟩
      · omega
      · have := (h2.map q' (List.mem_of_getElem? hj')).lt
        show y ≠ q'.y
        omega
      · have := (h2.map q (List.mem_of_getElem? hi')).lt
        show q.y ≠ y
        omega
      · exact h2.apart2 i j q q' hi' hj' hne
  have h1y := (h1.turn H k2 (fun b hb hm => h3 b (hsub b hm) hb) h0).y y
  rw [PB_y m d O l x OX 0 y] at h3
  refine ⟨y, rfl, ⟨O, gb', h1y, hD, fun b hb hm => ?_, fun b hb => ?_⟩, fun b hb => k2.block b (h4 b hb).2.1 fun hm => (h4 b hb).2.2.2 (hsub b hm)⟩
  · rcases hnew b hb with e | e
    · exact h3 b e hm
    · rw [PB_y m d O l x OX y 0] at hm
      have := h1.lt H b hm; omega
  · obtain ⟨q1, q2, q3, q4⟩ := h4 b hb
    refine ⟨q1, Nat.lt_of_lt_of_le q2 k2.size, by rw [PB_y m d O l x OX y 0]; exact q3, fun hm => ?_⟩
    rcases hnew b hm with e | e
    · exact q4 e
    · omega

/-- Close, of the first one that is left. -/
theorem PSt.tail {O : List Nat} (h : PSt S w0 w m d n p O W xs (q :: l)) : PSt S w0 w m d n p O W xs l :=
  ⟨h.pm, fun q2 h2 => h.sp q2 (by simp [h2]), fun q2 h2 => h.xge q2 (by simp [h2]), fun q2 h2 => h.apart q2 (by simp [h2]), fun i j q2 q3 hi hj hne => h.apart2 (i + 1) (j + 1) q2 q3 (by simpa using hi) (by simpa using hj) (by omega)⟩
theorem DSt.tail {gb : Nat} (h : DSt w0 w rb fb n R pb gb W xs (q :: l)) : DSt w0 w rb fb n R pb gb W xs l :=
  ⟨h.dm, fun q2 h2 => h.map q2 (by simp [h2]), fun q2 h2 => h.yge q2 (by simp [h2]), fun q2 h2 => h.apart q2 (by simp [h2]), fun i j q2 q3 hi hj hne => h.apart2 (i + 1) (j + 1) q2 q3 (by simpa using hi) (by simpa using hj) (by omega)⟩
theorem All7.p_close (H : PmOk S Z) (h : All7 S w0 w m d n p rb fb R pb B W xs (q :: l) W' xs' l') (hi : Inv7 n ⟨W, xs, q.N⟩ q.a q.r) :
    Calls Tryz.prog 24 #[.pointer (some ⟨q.x, 0, none⟩)] w fun e w' => e = .returned (.int .i64 (closeM n q.r ⟨W, xs, q.N⟩).1) ∧ ∃ OX', All7 S w0 w' m d n p rb fb R pb (OX' ++ B) W (closeM n q.r ⟨W, xs, q.N⟩).2 l W' xs' l' ∧ Z w' q.x OX' ∧ ∀ b, b ∈ B → w'.heap[b]? = w.heap[b]? := by
  have h0 := h
  obtain ⟨O, gb, h1, h2, h3, h4⟩ := h0
  refine (H.close (h1.px (i := 0) rfl) hi).mono ?_
  generalize (closeM n q.r ⟨W, xs, q.N⟩) = C
  rintro e w' ⟨rfl, O', OX', k1, k2, k3, k4, k5, k6⟩
  have hT : Turn (PB m d O (q :: l)) w w' := k4.mono fun b hb => PB_mem.2 (by simp only [List.mem_cons, List.mem_append] at hb; rcases hb with e | e | e; exact .inr (.inl e); exact .inr (.inr (.inl e)); exact .inr (.inr (.inr ⟨q, by simp, e⟩)))
  have hP := h1.tail.again H k1 k4 k5 (fun q2 h2 b hb hm => by
    obtain ⟨j, hj⟩ := List.getElem?_of_mem h2
    exact h1.apart2 (j + 1) 0 q2 q (by simpa using hj) rfl (by omega) b hb hm)
  have hnew : ∀ b, b ∈ PB m d O' l → b ∈ PB m d O (q :: l) ∨ w.heap.size ≤ b := fun b hb => by
    rcases PB_mem.1 hb with e | e | e | ⟨q2, hq, e⟩
    · exact .inl (PB_mem.2 (.inl e))
    · exact .inl (PB_mem.2 (.inr (.inl e)))
    · rcases k5 b e with e | e
      · exact .inl (PB_mem.2 (.inr (.inr (.inl e))))
      · exact .inr e
    · exact .inl (PB_mem.2 (.inr (.inr (.inr ⟨q2, by simp [hq], e⟩))))
  refine ⟨rfl, OX', ⟨O', gb, hP, h2.turn hT h3 h1.ge, fun b hb hm => ?_, fun b hb => ?_⟩, k2, fun b hb => hT.block b (h4 b hb).2.1 (h4 b hb).2.2.1⟩
  · rcases hnew b hm with e | e
    · exact h3 b hb e
    · have := h2.lt b hb; omega
  · rcases List.mem_append.1 hb with hb | hb
    · refine ⟨(k3 b hb).1, H.zlt k2 b hb, fun hm => ?_, fun hm => ?_⟩
      · rcases PB_mem.1 hm with e | e | e | ⟨q2, hq, e⟩
        · exact (k3 b hb).2 (by simp [e])
        · exact (k3 b hb).2 (by simp [e])
        · exact (k3 b hb).2 (by simp [e])
        · rcases k6 b hb with e2 | e2
          · obtain ⟨j, hj⟩ := List.getElem?_of_mem hq
            exact h1.apart2 (j + 1) 0 q2 q (by simpa using hj) rfl (by omega) b e e2
          · have := H.lt (h1.sp q2 (by simp [hq])) b e; omega
      · rcases k6 b hb with e2 | e2
        · exact h3 b hm (PB_mem.2 (.inr (.inr (.inr ⟨q, by simp, e2⟩))))
        · have := h2.lt b hm; omega
    · obtain ⟨q1, q2, q3, q4⟩ := h4 b hb
      refine ⟨q1, Nat.lt_of_lt_of_le q2 hT.size, fun hm => ?_, q4⟩
      rcases hnew b hm with e | e
      · exact q3 e
      · omega
theorem All7.d_close (H : PmOk S Z) (h : All7 S w0 w m d n p rb fb R pb B W xs l W' xs' (q :: l')) :
    Calls Tryz.prog 25 #[.pointer (some ⟨q.y, 0, none⟩)] w fun e w' => e = .returned (.int .i64 (closeM n q.r ⟨W', xs', q.N⟩).1) ∧ All7 S w0 w' m d n p rb fb R pb B W xs l W' (closeM n q.r ⟨W', xs', q.N⟩).2 l' ∧ (∀ b, b ∈ B → w'.heap[b]? = w.heap[b]?) ∧ w.heap.size ≤ w'.heap.size := by
  obtain ⟨O, gb, h1, h2, h3, h4⟩ := h
  refine (dx_close (h2.dx (i := 0) rfl)).mono ?_
  generalize (closeM n q.r ⟨W', xs', q.N⟩) = C
  rintro e w' ⟨rfl, k⟩
  obtain ⟨gb', k1, k2, k3⟩ := h2.step (i := 0) (q := q) (q' := q) (s' := ⟨W', C.2, q.N⟩) rfl k rfl rfl rfl rfl
  have hT : Turn (q.y :: pb :: R) w w' := by obtain ⟨_, _, t, _⟩ := k; exact t
  have hqm : q ∈ q :: l' := by simp
  have h0 : ∀ b, b ∈ q.y :: pb :: R → w0.heap.size ≤ b := fun b hb => by
    simp only [List.mem_cons] at hb
    rcases hb with rfl | rfl | hb
    · exact h2.yge q hqm
    · exact h2.dm.pge
    · exact h2.dm.Rge b hb
  have hsub : ∀ b, b ∈ q.y :: pb :: R → b ∈ DB rb fb R pb gb (q :: l') := fun b hb => by
    refine DB_mem.2 ?_
    simp only [List.mem_cons] at hb
    rcases hb with rfl | rfl | hb
    · exact .inr ⟨q, hqm, rfl⟩
    · exact .inl (by simp)
    · exact .inl (by simp [hb])
  have htl : ∀ b, b ∈ DB rb fb R pb gb' l' → b ∈ DB rb fb R pb gb' (q :: l') := fun b hb => by
    rcases DB_mem.1 hb with e | ⟨q2, hq, e⟩
    · exact DB_mem.2 (.inl e)
    · exact DB_mem.2 (.inr ⟨q2, by simp [hq], e⟩)
  have k1' : DSt w0 w' rb fb n R pb gb' W' C.2 (q :: l') := k1
  have k3' : ∀ b, b ∈ DB rb fb R pb gb' (q :: l') → b ∈ DB rb fb R pb gb (q :: l') ∨ w.heap.size ≤ b := k3
  refine ⟨rfl, ⟨O, gb', h1.turn H hT (fun b hb hm => h3 b (hsub b hm) hb) h0, k1'.tail, fun b hb hm => ?_, fun b hb => ?_⟩, fun b hb => hT.block b (h4 b hb).2.1 fun hm => (h4 b hb).2.2.2 (hsub b hm), hT.size⟩
  · rcases k3' b (htl b hb) with e | e
    · exact h3 b e hm
    · have := h1.lt H b hm; omega
  · obtain ⟨q1, q2, q3, q4⟩ := h4 b hb
    refine ⟨q1, Nat.lt_of_lt_of_le q2 hT.size, q3, fun hm => ?_⟩
    rcases k3' b (htl b hm) with e | e
    · exact q4 e
    · omega
end
end Go.Proofs.YtlieommbomjdaaaGreat

namespace Go.Proofs.YtlieommbomjdaaaGreat
open Go.ChangeShapes Go.WideShapes Go.ChangeAt Go.RowKit Go.Deep
set_option linter.unusedVariables false

/-- An act. -/
structure A7 where
  k : Int
  s : Int
  v : Int
  a : Int
  b : Int
def a7Cells (A : A7) : List Value := [.int .i64 A.k, .int .i64 A.s, .int .i64 A.v, .int .i64 A.a, .int .i64 A.b]
def A7B (w : World) (y : Nat) (A : A7) : Prop := w.heap[y]? = some (.cells #[.int .i64 A.k, .int .i64 A.s, .int .i64 A.v, .int .i64 A.a, .int .i64 A.b] 45 (0, 0))
theorem A7B.at {w : World} {y : Nat} {A : A7} (h : A7B w y A) : w.cell? ⟨y, 0, none⟩ = some (.int .i64 A.k) ∧ w.cell? ⟨y, 1, none⟩ = some (.int .i64 A.s) ∧ w.cell? ⟨y, 2, none⟩ = some (.int .i64 A.v) ∧ w.cell? ⟨y, 3, none⟩ = some (.int .i64 A.a) ∧ w.cell? ⟨y, 4, none⟩ = some (.int .i64 A.b) :=
  ⟨by rw [cell_of_row _ _ _ _ _ _ h]; rfl, by rw [cell_of_row _ _ _ _ _ _ h]; rfl, by rw [cell_of_row _ _ _ _ _ _ h]; rfl, by rw [cell_of_row _ _ _ _ _ _ h]; rfl, by rw [cell_of_row _ _ _ _ _ _ h]; rfl⟩
theorem A7B.lt {w : World} {y : Nat} {A : A7} (h : A7B w y A) : y < w.heap.size := (Array.getElem?_eq_some_iff.1 h).1
theorem A7B.grow {w w' : World} {y : Nat} {A : A7} (h : A7B w y A) (g : w.grownBy w' none) : A7B w' y A := (g.block _ h.lt (by simp)).trans h
structure A7.Ok (A : A7) : Prop where
  s : okI A.s
  v : okI A.v
  a : okI A.a
  b : okI A.b
structure A7sAre (w : World) (s : Option Addr) (l : Nat) (As : List A7) : Prop where
  len : As.length = l
  cells : l = 0 ∨ ∃ g o, s = some ⟨g, o, none⟩ ∧ ∀ (i : Nat) A, As[i]? = some A → ∀ (j : Nat) u, (a7Cells A)[j]? = some u → w.cell? ⟨g, o + i * 5 + j, none⟩ = some u
  ok : ∀ A, A ∈ As → A.Ok
theorem A7sAre.at {w wr : World} {s : Option Addr} {l : Nat} {As : List A7} (h : A7sAre w s l As) (g : w.grownBy wr none) {j : Nat} {A : A7} (hA : As[j]? = some A) :
    ∃ b o, s = some ⟨b, o, none⟩ ∧ wr.cell? ⟨b, o + j * 5, none⟩ = some (.int .i64 A.k) ∧ wr.cell? ⟨b, o + j * 5 + 1, none⟩ = some (.int .i64 A.s) ∧ wr.cell? ⟨b, o + j * 5 + 2, none⟩ = some (.int .i64 A.v) ∧ wr.cell? ⟨b, o + j * 5 + 3, none⟩ = some (.int .i64 A.a) ∧ wr.cell? ⟨b, o + j * 5 + 4, none⟩ = some (.int .i64 A.b) := by
  have hj := (List.getElem?_eq_some_iff.1 hA).1
  rcases h.cells with h0 | ⟨b, o, hs, hc⟩
  · have := h.len; omega
  · have key : ∀ q u, (a7Cells A)[q]? = some u → wr.cell? ⟨b, o + j * 5 + q, none⟩ = some u := fun q u hq => by
      have h1 := hc j A hA q u hq
      exact (World.cell?_of_block (a := ⟨b, o + j * 5 + q, none⟩) (g.block b (World.block_lt_of_cell? w _ h1) (by simp))).trans h1
    exact ⟨b, o, hs, key 0 _ rfl, key 1 _ rfl, key 2 _ rfl, key 3 _ rfl, key 4 _ rfl⟩
theorem a7s_of_trod {H : Type} {enc : TypeId × Value → H} {w : World} {base : Nat} {spare : Nat → Bool} {held : Bool} {fuel : Nat} {s : Option Addr} {l c : Nat} {x : DataW H × List MemPlace}
    (h : DataW.trod enc Tryz.prog w base spare held fuel 24 [.slice s l c] = some x) : ∃ As, A7sAre w s l As := by
  obtain ⟨zss, hz⟩ := introws_of_trod (d := 4) (n := 5) Tryz.underlying24 (by kernel_rfl) (by kernel_rfl) (by omega) h
  have key : ∀ zs, zs ∈ zss → ∃ A : A7, a7Cells A = zs.map (Value.int .i64) ∧ A.Ok := by
    intro zs hzs
    obtain ⟨hl, hok⟩ := hz.each zs hzs
    match zs, hl with
    | [k, f, a, b, c], _ => exact ⟨⟨k, f, a, b, c⟩, rfl, hok f (by simp), hok a (by simp), hok b (by simp), hok c (by simp)⟩
  obtain ⟨As, hl, hAs⟩ := list_all l (fun i (A : A7) => ∃ zs, zss[i]? = some zs ∧ a7Cells A = zs.map (Value.int .i64) ∧ A.Ok) fun i hi => by
    have hg : zss[i]? = some (zss[i]'(by rw [hz.len]; exact hi)) := List.getElem?_eq_getElem (by rw [hz.len]; exact hi)
    obtain ⟨A, h1, h2⟩ := key _ (List.mem_of_getElem? hg)
    exact ⟨A, _, hg, h1, h2⟩
  refine ⟨As, hl, ?_, fun A hA => ?_⟩
  · rcases hz.cells with h1 | ⟨g, o, hs, hc⟩
    · exact .inl h1
    · refine .inr ⟨g, o, hs, fun i A hi j u hu => ?_⟩
      obtain ⟨zs, hzi, hA, _⟩ := hAs i A hi
      rw [hA, List.getElem?_map] at hu
      obtain ⟨z, hzj, rfl⟩ := Option.map_eq_some_iff.1 hu
      exact hc i zs hzi j z hzj
  · obtain ⟨i, hi⟩ := List.getElem?_of_mem hA
    obtain ⟨_, _, _, h1⟩ := hAs i A hi
    exact h1

set_option maxRecDepth 100000 in
theorem a7_of {H : Type} {enc : TypeId × Value → H} {w w1 : World} {base b0 : Nat} {spare : Nat → Bool} {held : Bool} {r : Reach} {v : Value} {d : DataW H} {p : List MemPlace}
    (h : DataW.Trod enc Tryz.prog w base spare held 45 v d p) (hv : Value.okWide Tryz.prog w1 r b0 45 v) :
    ∃ A : A7, v = .agg #[.int .i64 A.k, .int .i64 A.s, .int .i64 A.v, .int .i64 A.a, .int .i64 A.b] ∧ A.Ok := by
  obtain ⟨cs, rfl, _⟩ := okWide_struct Tryz.underlying45 hv
  obtain ⟨fuel, hf⟩ := h
  obtain ⟨hl, hck⟩ := ck_of_trod 4 45 (List.replicate 5 (.int .i64)) _ fuel _ (by kernel_rfl) hf
  obtain ⟨zs, hz, hcs, hok⟩ := ck_ints (n := 5) (by rw [hl, List.length_replicate]) hck
  obtain ⟨l⟩ := cs
  simp only [Value.cells] at hcs
  match zs, hz with
  | [k, f, a, b, c], _ =>
    refine ⟨⟨k, f, a, b, c⟩, ?_, hok f (by simp), hok a (by simp), hok b (by simp), hok c (by simp)⟩
    have e : l = [k, f, a, b, c].map (Value.int .i64) := hcs
    rw [e]
    rfl

end Go.Proofs.YtlieommbomjdaaaGreat

namespace Go.Proofs.YtlieommbomjdaaaGreat
open Go.ChangeShapes Go.WideShapes Go.ChangeAt Go.RowKit Go.Deep
set_option linter.unusedVariables false

def ptrV (p : Nat) : Value := .pointer (some ⟨p, 0, none⟩)
/-- A row of pointers to things of type t. -/
def PRow (t : TypeId) (w : World) (base : Nat) (v : Value) (ps : List Nat) : Prop := w.ownsRow base t 1 v ps.length (ps.map ptrV)
section
variable {t : TypeId} {w w' : World} {base : Nat} {v : Value} {ps : List Nat}
theorem PRow.nil (t : TypeId) (w : World) (base : Nat) : PRow t w base (.slice none 0 0) [] := World.ownsRow_nil _ _ _ _
theorem PRow.lt (h : PRow t w base v ps) {g : Nat} (hg : v.ownBlock = some g) : base ≤ g ∧ g < w.heap.size := World.ownsRow.lt h g hg
theorem PRow.kept (h : PRow t w base v ps) (hb : ∀ b, v.ownBlock = some b → w'.heap[b]? = w.heap[b]?) : PRow t w' base v ps := by
  refine ⟨h.1, ?_⟩
  rcases h.2 with hn | ⟨g, cap, cur, rfl, hb2, h1, h2⟩
  · exact .inl hn
  · exact .inr ⟨g, cap, cur, rfl, hb2, (hb g rfl).trans h1, h2⟩
theorem PRow.grow (h : PRow t w base v ps) (g : w.grownBy w' none) : PRow t w' base v ps := h.kept fun b hb => g.block b (h.lt hb).2 (by simp)
theorem PRow.form (h : PRow t w base v ps) : ∃ s c, v = .slice s ps.length c ∧ (ps = [] ∨ ∃ g, s = some ⟨g, 0, none⟩ ∧ ∀ (i : Nat) x, ps[i]? = some x → w.cell? ⟨g, i, none⟩ = some (.pointer (some ⟨x, 0, none⟩))) := by
  rcases h.2 with ⟨e, h0⟩ | ⟨g, cap, cur, e, _⟩
  · subst e
    exact ⟨none, 0, by rw [h0], .inl (List.length_eq_zero_iff.1 h0)⟩
  · subst e
    refine ⟨some ⟨g, 0, none⟩, cap, rfl, .inr ⟨g, rfl, fun i x hx => ?_⟩⟩
    have := h.cells (g := g) rfl i (ptrV x) (by simp [hx])
    rw [Addr.add_lit, Nat.zero_add] at this
    exact this
end
theorem PRow.ptr {t : TypeId} {w : World} {base L c : Nat} {s : Option Addr} {ps : List Nat} (h : PRow t w base (.slice s L c) ps) (hL : ps.length = L) {i x : Nat} (hx : ps[i]? = some x) : ∃ g, s = some ⟨g, 0, none⟩ ∧ w.cell? ⟨g, i, none⟩ = some (.pointer (some ⟨x, 0, none⟩)) := by
  obtain ⟨s', c', e, hf⟩ := h.form
  simp only [Value.slice.injEq] at e
  obtain ⟨rfl, _, _⟩ := e
  rcases hf with rfl | ⟨g, rfl, hc⟩
  · simp at hx
  · exact ⟨g, rfl, hc i x hx⟩
/-- 'append(ps, p)'. -/
theorem wpList_ptr {t ts : TypeId} (ht : Tryz.prog.underlying ts = some (.slice t)) (hinfo : (Tryz.prog.info? t).map (fun i => (i.zero, i.size, i.bytes)) = some (some (.pointer none), 1, 8))
    {ops : Array Oper} {rest : List Oper} {o : Oper} {a : Act} {Q : Exit → Act → World → Prop} (w : World) (hgd : o.guard = none) (s x : Operand)
    (ho : o.op = .call { callee := .builtin .append, args := #[s, x], argTypes := #[ts, ts] }) (base : Nat) (v : Value) (ps : List Nat) (y : Nat) (hs : a.eval s = v) (h : PRow t w base v ps) (H c : Nat)
    (hx : a.eval x = .slice (some ⟨H, 0, none⟩) 1 c) (hH : w.heap.size = H) (hl : ps.length ≤ 1000000) (hbase : base ≤ H)
    (hK : ∀ g cap w', PRow t w' base (.slice (some ⟨g, 0, none⟩) (ps.length + 1) cap) (ps ++ [y]) → (w.alloc (.cells #[.pointer (some ⟨y, 0, none⟩)] t)).grownBy w' v.ownBlock → (v.ownBlock = some g ∨ H ≤ g) → wpList Tryz.prog ops Q rest (a.put o.dst (.slice (some ⟨g, 0, none⟩) (ps.length + 1) cap)) w') :
    wpList Tryz.prog ops Q (o :: rest) a (w.alloc (.cells #[.pointer (some ⟨y, 0, none⟩)] t)) := by
  obtain ⟨i0, hi, hz0, hz1, hz2⟩ := info_parts hinfo
  subst hH
  refine wpList_append_lies _ hgd s x ts ho base t i0 (.pointer none) 1 8 ht hi hz0 hz1 hz2 rfl (by decide) v ps.length (ps.map ptrV) hs (World.ownsRow.alloc h _) ⟨w.heap.size, 0, none⟩ 1 c [ptrV y] hx rfl ?_ ?_ (by omega) (by unfold maxLen; omega) (by omega) (by simp; omega) (w.heap.size + 1) (by simp) ?_
  · exact World.news_of_block (heap_alloc_new w _)
  · intro u hu; simp at hu; subst hu; rfl
  · intro g cap w' hown hgrow hat hlt
    refine hK g cap w' ?_ hgrow ?_
    · unfold PRow
      simp only [List.length_append, List.length_cons, List.length_nil, List.map_append, List.map_cons, List.map_nil]
      exact hown
    · rcases hat with q | q
      · exact .inl q
      · exact .inr (by omega)
theorem info_pm : (Tryz.prog.info? 37).map (fun i => (i.zero, i.size, i.bytes)) = some (some (.pointer none), 1, 8) := by kernel_rfl
theorem info_rm : (Tryz.prog.info? 41).map (fun i => (i.zero, i.size, i.bytes)) = some (some (.pointer none), 1, 8) := by kernel_rfl

section
variable {S : SpP} {Z : World → Nat → List Nat → Prop} {w0 w w' : World} {m d n p rb fb pb : Nat} {R B B' O2 : List Nat} {W W' : WoF} {xs xs' : List FrV} {l l' : List Sp7}
/-- Blocks of the law's own turn. -/
theorem All7.turnB (H : PmOk S Z) (h : All7 S w0 w m d n p rb fb R pb B W xs l W' xs' l') (g : Turn O2 w w') (hO : ∀ b, b ∈ O2 → b ∈ B) (hB : ∀ b, b ∈ B' → (b ∈ B ∨ w.heap.size ≤ b) ∧ b < w'.heap.size) : All7 S w0 w' m d n p rb fb R pb B' W xs l W' xs' l' := by
  obtain ⟨O, gb, h1, h2, h3, h4⟩ := h
  have hw := h1.pm.below.size
  refine ⟨O, gb, h1.turn H g (fun b hb hm => (h4 b (hO b hm)).2.2.1 hb) (fun b hb => (h4 b (hO b hb)).1), h2.turn g (fun b hb hm => (h4 b (hO b hm)).2.2.2 hb) (fun b hb => (h4 b (hO b hb)).1), h3, fun b hb => ?_⟩
  obtain ⟨k1, k2⟩ := hB b hb
  rcases k1 with k1 | k1
  · exact ⟨(h4 b k1).1, k2, (h4 b k1).2.2⟩
  · exact ⟨by omega, k2, fun hm => by have := h1.lt H b hm; omega, fun hm => by have := h2.lt b hm; omega⟩
end
/-- What an append of a row does, as a turn. -/
theorem turn_app {w w9 : World} {o : Obj} {v : Value} (g : (w.alloc o).grownBy w9 v.ownBlock) : Turn v.ownBlock.toList w w9 := by
  have h1 : Turn v.ownBlock.toList w (w.alloc o) := Turn.grown (World.grownBy_alloc w o none)
  exact h1.trans' ⟨g.os, g.tape, g.output, g.size, fun k hk hn => g.block k hk fun e => hn (by rw [← e]; simp)⟩
end Go.Proofs.YtlieommbomjdaaaGreat

namespace Go.Proofs.YtlieommbomjdaaaGreat
open Go.ChangeShapes Go.WideShapes Go.ChangeAt Go.RowKit Go.Deep
set_option linter.unusedVariables false

theorem map_set_x {l : List Sp7} {i : Nat} {q q' : Sp7} (hq : l[i]? = some q) (e : q'.x = q.x) : (l.set i q').map Sp7.x = l.map Sp7.x := by
  apply List.ext_getElem?
  intro j
  rw [List.getElem?_map, List.getElem?_map]
  by_cases h : j = i
  · subst h
    rw [List.getElem?_set_self (List.getElem?_eq_some_iff.1 hq).1, hq]
    simp [e]
  · rw [List.getElem?_set_ne (fun k => h k.symm)]
theorem map_set_y {l : List Sp7} {i : Nat} {q q' : Sp7} (hq : l[i]? = some q) (e : q'.y = q.y) : (l.set i q').map Sp7.y = l.map Sp7.y := by
  apply List.ext_getElem?
  intro j
  rw [List.getElem?_map, List.getElem?_map]
  by_cases h : j = i
  · subst h
    rw [List.getElem?_set_self (List.getElem?_eq_some_iff.1 hq).1, hq]
    simp [e]
  · rw [List.getElem?_set_ne (fun k => h k.symm)]
theorem cnt_le (xs : List FrV) (a : Int) : 0 ≤ cntF xs a ∧ cntF xs a ≤ xs.length := by
  unfold cntF
  have := List.countP_le_length (p := fun x : FrV => x.cl == 1 && x.ow == a) (l := xs)
  omega

section
variable {S : SpP} {Z : World → Nat → List Nat → Prop} {w0 w w' : World} {m d n p rb fb pb : Nat} {R B B' : List Nat} {W W' : WoF} {xs xs' : List FrV} {l l' : List Sp7} {i : Nat} {q q' : Sp7} {s' : MS} {f : Nat} {args : Array Value} {V : Value}
theorem All7.pcall (H : PmOk S Z) (h : All7 S w0 w m d n p rb fb R pb B W xs l W' xs' l') (hq : l[i]? = some q)
    (hc : ∀ O, PX S w0 w m d n p O q.x q.OX q.a q.r ⟨W, xs, q.N⟩ → Calls Tryz.prog f args w fun e w' => e = .returned V ∧ PXL S w0 w w' m d n p O q.x q.OX q.a q.r s') :
    Calls Tryz.prog f args w fun e w' => e = .returned V ∧ ∃ OX', All7 S w0 w' m d n p rb fb R pb B s'.W s'.xs (l.set i ⟨q.x, OX', q.y, q.a, q.r, s'.N⟩) W' xs' l' ∧ ∀ b, b ∈ B → w'.heap[b]? = w.heap[b]? := by
  obtain ⟨O, gb, h1, h2, h3, h4⟩ := h
  refine (hc O (h1.px hq)).mono ?_
  rintro e w' ⟨rfl, k⟩
  obtain ⟨O', OX', k1, k2, k3⟩ := h1.step H hq k
  refine ⟨rfl, ?_⟩
  refine ⟨OX', ⟨O', gb, k1, h2.turn k2 h3 h1.ge, fun b hb hm => ?_, fun b hb => ?_⟩, fun b hb => k2.block b (h4 b hb).2.1 (h4 b hb).2.2.1⟩
  · rcases k3 b hm with e | e
    · exact h3 b hb e
    · have := h2.lt b hb; omega
  · obtain ⟨q1, q2, q3, q4⟩ := h4 b hb
    refine ⟨q1, Nat.lt_of_lt_of_le q2 k2.size, fun hm => ?_, q4⟩
    rcases k3 b hm with e | e
    · exact q3 e
    · omega
theorem All7.dcall (H : PmOk S Z) (h : All7 S w0 w m d n p rb fb R pb B W xs l W' xs' l') (hq : l'[i]? = some q) (ey : q'.y = q.y) (ea : q'.a = q.a) (er : q'.r = q.r) (eN : q'.N = s'.N)
    (hc : ∀ gb, DX w0 w rb fb n R pb gb q.y q.a q.r ⟨W', xs', q.N⟩ → Calls Tryz.prog f args w fun e w' => e = .returned V ∧ DXL w0 w w' rb fb n R pb gb q.y q.a q.r s') :
    Calls Tryz.prog f args w fun e w' => e = .returned V ∧ All7 S w0 w' m d n p rb fb R pb B W xs l s'.W s'.xs (l'.set i q') ∧ ∀ b, b ∈ B → w'.heap[b]? = w.heap[b]? := by
  obtain ⟨O, gb, h1, h2, h3, h4⟩ := h
  refine (hc gb (h2.dx hq)).mono ?_
  rintro e w' ⟨rfl, hk⟩
  obtain ⟨gb', k1, k2, k3⟩ := h2.step hq hk ey ea er eN
  refine ⟨rfl, ?_⟩
  have hT : Turn (q.y :: pb :: R) w w' := by obtain ⟨_, _, t, _⟩ := hk; exact t
  have hqm := List.mem_of_getElem? hq
  have h0 : ∀ b, b ∈ q.y :: pb :: R → w0.heap.size ≤ b := fun b hb => by
    simp only [List.mem_cons] at hb
    rcases hb with rfl | rfl | hb
    · exact h2.yge q hqm
    · exact h2.dm.pge
    · exact h2.dm.Rge b hb
  have hsub : ∀ b, b ∈ q.y :: pb :: R → b ∈ DB rb fb R pb gb l' := fun b hb => by
    refine DB_mem.2 ?_
    simp only [List.mem_cons] at hb
    rcases hb with rfl | rfl | hb
    · exact .inr ⟨q, hqm, rfl⟩
    · exact .inl (by simp)
    · exact .inl (by simp [hb])
  refine ⟨⟨O, gb', h1.turn H hT (fun b hb hm => h3 b (hsub b hm) hb) h0, k1, fun b hb hm => ?_, fun b hb => ?_⟩, fun b hb => hT.block b (h4 b hb).2.1 fun hm => (h4 b hb).2.2.2 (hsub b hm)⟩
  · rcases k3 b hb with e | e
    · exact h3 b e hm
    · have := h1.lt H b hm; omega
  · obtain ⟨q1, q2, q3, q4⟩ := h4 b hb
    refine ⟨q1, Nat.lt_of_lt_of_le q2 hT.size, q3, fun hm => ?_⟩
    rcases k3 b hm with e | e
    · exact q4 e
    · omega
theorem All7.plook (h : All7 S w0 w m d n p rb fb R pb B W xs l W' xs' l') (hq : l[i]? = some q)
    (hc : ∀ O, PX S w0 w m d n p O q.x q.OX q.a q.r ⟨W, xs, q.N⟩ → Calls Tryz.prog f args w fun e w' => e = .returned V ∧ w.grownBy w' none) :
    Calls Tryz.prog f args w fun e w' => e = .returned V ∧ w.grownBy w' none := by
  obtain ⟨O, gb, h1, _⟩ := h
  exact hc O (h1.px hq)
theorem All7.dlook (h : All7 S w0 w m d n p rb fb R pb B W xs l W' xs' l') (hq : l'[i]? = some q)
    (hc : ∀ gb, DX w0 w rb fb n R pb gb q.y q.a q.r ⟨W', xs', q.N⟩ → Calls Tryz.prog f args w fun e w' => e = .returned V ∧ w.grownBy w' none) :
    Calls Tryz.prog f args w fun e w' => e = .returned V ∧ w.grownBy w' none := by
  obtain ⟨O, gb, _, h2, _⟩ := h
  exact hc gb (h2.dx hq)
theorem All7.alike (h : All7 S w0 w m d n p rb fb R pb B W xs l W xs l') (hM : MOk n ⟨W, xs, 0⟩ noE) :
    Calls Tryz.prog 23 #[.pointer (some ⟨m, 0, none⟩), .pointer (some ⟨p, 0, none⟩), .pointer (some ⟨rb, 0, none⟩), .pointer (some ⟨pb, 0, none⟩)] w fun e w' => e = .returned (.bool true) ∧ w.grownBy w' none := by
  obtain ⟨O, gb, h1, h2, _⟩ := h
  exact alike_walk h1.pm h2.dm hM
theorem All7.free (h : All7 S w0 w m d n p rb fb R pb B W xs l W' xs' l') : Calls Tryz.prog 26 #[.pointer (some ⟨p, 0, none⟩)] w fun e w' => e = .returned (.int .i64 (countF xs 0)) ∧ w.grownBy w' none := by
  obtain ⟨O, gb, h1, _⟩ := h
  obtain ⟨g, c, _, hp⟩ := h1.pm.pool
  exact fr_free hp
theorem All7.cells (h : All7 S w0 w m d n p rb fb R pb B W xs l W' xs' l') (hq : l'[i]? = some q) (g : w.grownBy w' none) : w'.cell? ⟨q.y, 3, none⟩ = some (.int .i64 q.r) ∧ w'.cell? ⟨q.y, 4, none⟩ = some (.int .i64 q.N) := by
  obtain ⟨O, gb, _, h2, _⟩ := h
  have := ((h2.map q (List.mem_of_getElem? hq)).grow g).at
  exact ⟨this.2.2.2.1, this.2.2.2.2⟩
end

/-- What a round of acts has, the act in a box of its own. -/
structure ActAt (S : SpP) (w wr : World) (m d n p rb fb : Nat) (R : List Nat) (pb : Nat) (tv ov : Value) (Bx : Nat) (A : A7) (W : WoF) (xs : List FrV) (l : List Sp7) : Prop where
  all : All7 S w wr m d n p rb fb R pb (tv.ownBlock.toList ++ ov.ownBlock.toList ++ [Bx]) W xs l W xs l
  ms : MSt n W xs l
  t : PRow 37 wr w.heap.size tv (l.map Sp7.x)
  o : PRow 41 wr w.heap.size ov (l.map Sp7.y)
  sep : ∀ b, tv.ownBlock = some b → ov.ownBlock ≠ some b
  box : A7B wr Bx A
theorem findV_form7 (o : Option (Int × Int)) : ∃ A B ok, findV o = .tuple #[.agg #[.int .i64 A, .int .i64 B], .bool ok] := by
  cases o with
  | none => exact ⟨0, 0, false, rfl⟩
  | some e => exact ⟨e.1, e.2, true, rfl⟩
theorem set_same {α : Type} {l : List α} {i : Nat} {q : α} (hq : l[i]? = some q) : l.set i q = l := by
  apply List.ext_getElem?
  intro j
  by_cases h : j = i
  · subst h
    rw [List.getElem?_set_self (List.getElem?_eq_some_iff.1 hq).1, hq]
  · rw [List.getElem?_set_ne (fun k => h k.symm)]
end Go.Proofs.YtlieommbomjdaaaGreat

namespace Go.Proofs.YtlieommbomjdaaaGreat
open Go.ChangeShapes Go.WideShapes Go.ChangeAt Go.RowKit Go.Deep
set_option linter.unusedVariables false

/-- Those from i on are left; the rows tv and ov of them all. -/
structure CW (S : SpP) (w wr : World) (m d n p rb fb : Nat) (R : List Nat) (pb : Nat) (tv ov : Value) (W : WoF) (xs : List FrV) (l : List Sp7) (i : Nat) : Prop where
  all : All7 S w wr m d n p rb fb R pb (tv.ownBlock.toList ++ ov.ownBlock.toList) W xs (l.drop i) W xs (l.drop i)
  ms : MSt n W xs (l.drop i)
  t : PRow 37 wr w.heap.size tv (l.map Sp7.x)
  o : PRow 41 wr w.heap.size ov (l.map Sp7.y)
/-- .. in the midst of closing the i-th: the program's is closed (Z), the document's is or isn't yet. -/
structure CWm (S : SpP) (Z : World → Nat → List Nat → Prop) (w wr : World) (m d n p rb fb : Nat) (R : List Nat) (pb : Nat) (tv ov : Value) (x : Nat) (OX : List Nat) (W : WoF) (xs : List FrV) (l : List Sp7) (ys : List FrV) (l' : List Sp7) (ps qs : List Nat) : Prop where
  all : All7 S w wr m d n p rb fb R pb (OX ++ (tv.ownBlock.toList ++ ov.ownBlock.toList)) W xs l W ys l'
  t : PRow 37 wr w.heap.size tv ps
  o : PRow 41 wr w.heap.size ov qs
  z : Z wr x OX
section
variable {S : SpP} {Z : World → Nat → List Nat → Prop} {w wr w2 : World} {m d n p rb fb : Nat} {R : List Nat} {pb : Nat} {tv ov : Value} {W : WoF} {xs ys zs : List FrV} {l l' ls : List Sp7} {i x : Nat} {OX ps qs : List Nat} {q : Sp7} {C1 : Int}
theorem drop_get {α : Type} {l : List α} {i : Nat} {q : α} (h : l[i]? = some q) : l.drop i = q :: l.drop (i + 1) := by
  obtain ⟨h1, h2⟩ := List.getElem?_eq_some_iff.1 h
  rw [List.drop_eq_getElem_cons h1, h2]
theorem CW.grow (H : PmOk S Z) (h : CW S w wr m d n p rb fb R pb tv ov W xs l i) (g : wr.grownBy w2 none) : CW S w w2 m d n p rb fb R pb tv ov W xs l i :=
  ⟨h.all.grow H g, h.ms, h.t.grow g, h.o.grow g⟩
theorem CW.close (H : PmOk S Z) (h : CW S w wr m d n p rb fb R pb tv ov W xs l i) (hq : l[i]? = some q) (hC : closeM n q.r ⟨W, xs, q.N⟩ = (C1, zs)) :
    Calls Tryz.prog 24 #[.pointer (some ⟨q.x, 0, none⟩)] wr fun e w' => e = .returned (.int .i64 C1) ∧ ∃ OX, CWm S Z w w' m d n p rb fb R pb tv ov q.x OX W zs (l.drop (i + 1)) xs (q :: l.drop (i + 1)) (l.map Sp7.x) (l.map Sp7.y) := by
  obtain ⟨h1, h2, h3, h4⟩ := h
  rw [drop_get hq] at h1 h2
  have hp := h1.p_close H (h2.inv (i := 0) (q := q) rfl)
  rw [hC] at hp
  refine hp.mono ?_
  rintro e w' ⟨rfl, OX, k1, k2, k3⟩
  exact ⟨rfl, OX, k1, h3.kept fun b hb => k3 b (by simp [hb]), h4.kept fun b hb => k3 b (by simp [hb]), k2⟩
theorem CWm.grow (H : PmOk S Z) (h : CWm S Z w wr m d n p rb fb R pb tv ov x OX W xs l ys l' ps qs) (g : wr.grownBy w2 none) : CWm S Z w w2 m d n p rb fb R pb tv ov x OX W xs l ys l' ps qs :=
  ⟨h.all.grow H g, h.t.grow g, h.o.grow g, H.zkept h.z g.size fun b hb => g.block b (H.zlt h.z b hb) (by simp)⟩
theorem CWm.dclose (H : PmOk S Z) (h : CWm S Z w wr m d n p rb fb R pb tv ov q.x OX W zs l xs (q :: l) ps qs) (hC : closeM n q.r ⟨W, xs, q.N⟩ = (C1, zs)) :
    Calls Tryz.prog 25 #[.pointer (some ⟨q.y, 0, none⟩)] wr fun e w' => e = .returned (.int .i64 C1) ∧ CWm S Z w w' m d n p rb fb R pb tv ov q.x OX W zs l zs l ps qs := by
  obtain ⟨h1, h3, h4, h5⟩ := h
  have hd := h1.d_close H
  rw [hC] at hd
  refine hd.mono ?_
  rintro e w' ⟨rfl, k1, k3, k9⟩
  exact ⟨rfl, k1, h3.kept fun b hb => k3 b (by simp [hb]), h4.kept fun b hb => k3 b (by simp [hb]), H.zkept h5 k9 fun b hb => k3 b (by simp [hb])⟩
theorem CWm.tables (H : PmOk S Z) (h : CWm S Z w wr m d n p rb fb R pb tv ov x OX W xs l ys l' ps qs) : Calls Tryz.prog 21 #[.pointer (some ⟨x, 0, none⟩)] wr fun e w' => e = .returned (.int .i64 0) ∧ wr.grownBy w' none := H.ztables h.z
theorem CWm.alike (h : CWm S Z w wr m d n p rb fb R pb tv ov x OX W xs l xs l' ps qs) (hM : MSt n W xs l) :
    Calls Tryz.prog 23 #[.pointer (some ⟨m, 0, none⟩), .pointer (some ⟨p, 0, none⟩), .pointer (some ⟨rb, 0, none⟩), .pointer (some ⟨pb, 0, none⟩)] wr fun e w' => e = .returned (.bool true) ∧ wr.grownBy w' none := h.all.alike hM.ok
theorem CWm.next (H : PmOk S Z) (h : CWm S Z w wr m d n p rb fb R pb tv ov x OX W xs (l.drop (i + 1)) xs (l.drop (i + 1)) (l.map Sp7.x) (l.map Sp7.y)) (hM : MSt n W xs (l.drop (i + 1))) : CW S w wr m d n p rb fb R pb tv ov W xs l (i + 1) :=
  ⟨h.all.fresh H (grown_refl _ _) (fun b hb => ⟨.inl (List.mem_append_right _ hb), by
    rcases List.mem_append.1 hb with hb | hb
    · exact (h.t.lt (by simpa using hb)).2
    · exact (h.o.lt (by simpa using hb)).2⟩), hM, h.t, h.o⟩
theorem CWm.row {gt go' L c1 c2 : Nat} (h : CWm S Z w wr m d n p rb fb R pb (.slice (some ⟨gt, 0, none⟩) L c1) (.slice (some ⟨go', 0, none⟩) L c2) x OX W xs l' ys ls (l.map Sp7.x) (l.map Sp7.y)) (hl : l.length = L) (hq : l[i]? = some q) : wr.cell? ⟨gt, i, none⟩ = some (.pointer (some ⟨q.x, 0, none⟩)) ∧ wr.cell? ⟨go', i, none⟩ = some (.pointer (some ⟨q.y, 0, none⟩)) := by
  obtain ⟨g1, e1, h1⟩ := h.t.ptr (by rw [List.length_map]; exact hl) (show (l.map Sp7.x)[i]? = some q.x by rw [List.getElem?_map, hq]; rfl)
  obtain ⟨g2, e2, h2⟩ := h.o.ptr (by rw [List.length_map]; exact hl) (show (l.map Sp7.y)[i]? = some q.y by rw [List.getElem?_map, hq]; rfl)
  injection e1 with e1
  injection e1 with e1
  injection e2 with e2
  injection e2 with e2
  subst e1
  subst e2
  exact ⟨h1, h2⟩
theorem CW.low (h : CW S w wr m d n p rb fb R pb tv ov W xs l i) : w.grownBy wr none := h.all.low
end
end Go.Proofs.YtlieommbomjdaaaGreat
