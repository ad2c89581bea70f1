/- What layer 4 asks of a memory of n frames whose bytes are L: places, entries, walks; as plain functions. The document's layer 4: Place. The document's layer 4: Look, Walk. The document's layer 4: Walk. Layer 4's laws: memories that are made of some words, the program's and the document's alike. What the arguments of layer 4's laws read as: slices of words, of asks, of numbers. Layer 4's laws: same tells whether both memories have the very same bytes: it says yes of two that are alike. -/
import Derived.Test.YtlieommbomjdaaaRefB1
import Derived.Test.YtlieommbomjdaaaPteB2
import Derived.Laws.ResultCell
import Derived.OwnWalk
import Derived.DataReads
import Derived.Deep.RegionHeld3
import Derived.Test.YtlieommbomjdaaaPteOpen
namespace Go.Proofs.Ytlieommbomjdaaa
open Go.ChangeShapes Go.WideShapes Go.RowKit
set_option linter.unusedVariables false

/-- A frame's word, 0 where there is none. -/
def wordI (n : Nat) (L : List UInt8) (f i : Int) : Int := ((wordV n L f i).1 : Nat)
/-- The next table's frame. -/
def nextOf (n : Nat) (L : List UInt8) (v f l : Int) : Option Int :=
  if kindOf (flagOf (wordI n L f (indexOf v l))) = 1 ∧ 0 ≤ ppnOf (wordI n L f (indexOf v l)) ∧ ppnOf (wordI n L f (indexOf v l)) < n then some (ppnOf (wordI n L f (indexOf v l))) else none
/-- Down from a level. -/
def downOf (n : Nat) (L : List UInt8) (v : Int) : Nat → Int → Option Int
  | 0, f => some f
  | q + 1, f => (nextOf n L v f ((q + 1 : Nat) : Int)).bind (downOf n L v q)
def placeOf (n : Nat) (L : List UInt8) (r v : Int) : Option Int := if (0 ≤ r ∧ r < n) ∧ 0 ≤ v ∧ v < 134217728 then downOf n L v 2 r else none
def plV (v : Int) : Option Int → Value
  | none => .tuple #[.int .i64 0, .int .i64 0, .bool false]
  | some f => .tuple #[.int .i64 f, .int .i64 (indexOf v 0), .bool true]
def lookV (n : Nat) (L : List UInt8) (v : Int) : Option Int → Value
  | none => .tuple #[.agg #[.int .i64 0, .int .i64 0], .bool false]
  | some f => .tuple #[.agg #[.int .i64 (flagOf (wordI n L f (indexOf v 0))), .int .i64 (ppnOf (wordI n L f (indexOf v 0)))], .bool true]

/-- An entry's number, A set, and D to write. -/
def markOf (x a : Int) : Int := if a = 2 then bits .or .u64 (bits .or .u64 x 64) 128 else bits .or .u64 x 64
/-- A word stored. -/
def setL (n : Nat) (L : List UInt8) (f i v : Int) : List UInt8 := if (0 ≤ f ∧ f < n) ∧ (0 ≤ i ∧ i < 512) then splice L (f.toNat * 4096 + i.toNat * 8) (bytesOf v.toNat) else L
/-- What comes of a walk: its code; the table and the entry, if there is a place. -/
def tabOf (n : Nat) (L : List UInt8) (r va : Int) : Int := (placeOf n L r (vpnOf va)).getD 0
def entOf (n : Nat) (L : List UInt8) (r va : Int) : Int := wordI n L (tabOf n L r va) (indexOf (vpnOf va) 0)
def wayOf (n : Nat) (L : List UInt8) (r va a : Int) (u : Bool) : Int :=
  if canonOf va = false ∨ ¬ (0 ≤ r ∧ r < n) then 2
  else if placeOf n L r (vpnOf va) = none then 1
  else if ¬ (kindOf (flagOf (entOf n L r va)) = 2 ∧ 0 ≤ ppnOf (entOf n L r va) ∧ ppnOf (entOf n L r va) < n) then 1
  else if mayOf (flagOf (entOf n L r va)) a u = false then 3 else 0
def walkV (n : Nat) (L : List UInt8) (r va a : Int) (u : Bool) : Value :=
  if wayOf n L r va a u = 0 then .tuple #[.int .i64 0, .int .i64 (ppnOf (entOf n L r va)), .int .i64 (byteOf va)] else .tuple #[.int .i64 (wayOf n L r va a u), .int .i64 0, .int .i64 0]
def walkL (n : Nat) (L : List UInt8) (r va a : Int) (u : Bool) : List UInt8 :=
  if wayOf n L r va a u = 0 then setL n L (tabOf n L r va) (indexOf (vpnOf va) 0) (markOf (entOf n L r va) a) else L

theorem index_lt0 (v : Int) : 0 ≤ indexOf v 0 ∧ indexOf v 0 < 512 := by
  show 0 ≤ v % 512 ∧ v % 512 < 512
  omega

theorem okU_or (x k : Int) (hx : okU x) (hk : okU k) : okU (bits .or .u64 x k) := by
  obtain ⟨a, rfl⟩ := Int.eq_ofNat_of_zero_le hx.1
  obtain ⟨b, rfl⟩ := Int.eq_ofNat_of_zero_le hk.1
  have h1 := hx.2
  have h2 := hk.2
  rw [bits_or_u64_nat a b (by omega) (by omega)]
  have : a ||| b < 2 ^ 64 := Nat.or_lt_two_pow (by omega) (by omega)
  exact ⟨by omega, by omega⟩
theorem okU_mark (x a : Int) (hx : okU x) : okU (markOf x a) := by
  unfold markOf
  split
  · exact okU_or _ _ (okU_or _ _ hx ⟨by decide, by decide⟩) ⟨by decide, by decide⟩
  · exact okU_or _ _ hx ⟨by decide, by decide⟩

/-- An entry that is boxed, as a block. -/
def EntB (w : World) (y : Nat) (A B : Int) : Prop := w.heap[y]? = some (.cells #[.int .i64 A, .int .i64 B] 44 (0, 0))
theorem EntB.at {w : World} {y : Nat} {A B : Int} (h : EntB w y A B) : w.cell? ⟨y, 0, none⟩ = some (.int .i64 A) ∧ w.cell? ⟨y, 1, none⟩ = some (.int .i64 B) :=
  ⟨by rw [cell_of_row _ _ _ _ _ _ h]; rfl, by rw [cell_of_row _ _ _ _ _ _ h]; rfl⟩
theorem EntB.lt {w : World} {y : Nat} {A B : Int} (h : EntB w y A B) : y < w.heap.size := (Array.getElem?_eq_some_iff.1 h).1
theorem EntB.grow {w w' : World} {y : Nat} {A B : Int} (h : EntB w y A B) (g : w.grownBy w' none) : EntB w' y A B := (g.block _ h.lt (by simp)).trans h

theorem wordI_ok (n : Nat) (L : List UInt8) (f i : Int) : okU (wordI n L f i) := by
  unfold wordI wordV
  split
  · have h := wordOf_lt ((L.drop (f.toNat * 4096 + i.toNat * 8)).take 8)
    have h2 : ((L.drop (f.toNat * 4096 + i.toNat * 8)).take 8).length ≤ 8 := by simp; omega
    have h3 : 256 ^ ((L.drop (f.toNat * 4096 + i.toNat * 8)).take 8).length ≤ 256 ^ 8 := Nat.pow_le_pow_right (by decide) h2
    have h4 : (256 : Nat) ^ 8 = 18446744073709551616 := by decide
    generalize wordOf ((L.drop (f.toNat * 4096 + i.toNat * 8)).take 8) = x at *
    refine ⟨?_, ?_⟩
    · show (0 : Int) ≤ (x : Int); omega
    · show (x : Int) < 18446744073709551616; omega
  · exact ⟨by decide, by decide⟩

theorem down_some {n : Nat} {L : List UInt8} {v f g : Int} {q : Nat} (h : nextOf n L v f ((q + 1 : Nat) : Int) = some g) : downOf n L v (q + 1) f = downOf n L v q g := by
  show (nextOf n L v f ((q + 1 : Nat) : Int)).bind (downOf n L v q) = _
  rw [h]; rfl
theorem down_none {n : Nat} {L : List UInt8} {v f : Int} {q : Nat} (h : nextOf n L v f ((q + 1 : Nat) : Int) = none) : downOf n L v (q + 1) f = none := by
  show (nextOf n L v f ((q + 1 : Nat) : Int)).bind (downOf n L v q) = _
  rw [h]; rfl
theorem next_lt {n : Nat} {L : List UInt8} {v f l g : Int} (h : nextOf n L v f l = some g) : 0 ≤ g ∧ g < n := by
  unfold nextOf at h
  split at h
  · rename_i hc
    injection h with h
    subst h
    exact hc.2
  · cases h
theorem down_lt {n : Nat} {L : List UInt8} {v : Int} : ∀ {q : Nat} {f g : Int}, 0 ≤ f ∧ f < n → downOf n L v q f = some g → 0 ≤ g ∧ g < n
  | 0, f, g, hf, h => by injection h with h; subst h; exact hf
  | q + 1, f, g, hf, h => by
    cases hx : nextOf n L v f ((q + 1 : Nat) : Int) with
    | none => rw [down_none hx] at h; cases h
    | some y => rw [down_some hx] at h; exact down_lt (next_lt hx) h
theorem place_lt {n : Nat} {L : List UInt8} {r v g : Int} (h : placeOf n L r v = some g) : 0 ≤ g ∧ g < n := by
  unfold placeOf at h
  split at h
  · rename_i hc; exact down_lt hc.1 h
  · cases h

theorem grown_of_below' {a b : World} (h : Below a.heap.size a b) : a.grownBy b none := grown_of_below h none
theorem grown_drew (w : World) : w.grownBy w.drew none := grown_drewN w 1 none

section
variable {w0 w w' : World} {m d r f n : Nat} {R : List Nat} {L M : List UInt8}
/-- A word of the document's memory, by a letter. -/
theorem rword_at (h : RS w0 w r f n R L) (i j : Int) : Calls Try.prog 48 #[.pointer (some ⟨r, 0, none⟩), .int .i64 i, .int .i64 j] w fun e w' => e = .returned (.tuple #[.int .u64 (wordI n L i j), .bool (wordV n L i j).2]) ∧ w = w' := rword_any h i j
/-- .. into the program's. -/
theorem setWordE' (h : St w0 w m d n L) (I J V : Int) (hI : 0 ≤ I ∧ I < n) (hJ : 0 ≤ J ∧ J < 512) (hV : okU V) :
    Calls Try.prog 26 #[.pointer (some ⟨m, 0, none⟩), .int .i64 I, .int .i64 J, .int .u64 V] w fun e w' => e = .returned (.bool true) ∧ St w0 w' m d n (setL n L I J V) ∧ w.grownBy w' (some d) := by
  have hs : setL n L I J V = splice L (I.toNat * 4096 + J.toNat * 8) (bytesOf V.toNat) := by unfold setL; rw [if_pos ⟨hI, hJ⟩]
  rw [hs]
  have hv2 := hV.2
  obtain ⟨i, rfl⟩ := Int.eq_ofNat_of_zero_le hI.1
  obtain ⟨j, rfl⟩ := Int.eq_ofNat_of_zero_le hJ.1
  obtain ⟨v, rfl⟩ := Int.eq_ofNat_of_zero_le hV.1
  exact setWordE h _ _ _ i j v rfl rfl rfl (by omega) (by omega) (by omega)
theorem setWordA (h : St w0 w m d n L) (I J V : Int) (hV : okU V) :
    Calls Try.prog 26 #[.pointer (some ⟨m, 0, none⟩), .int .i64 I, .int .i64 J, .int .u64 V] w fun e w' => (∃ b, e = .returned (.bool b)) ∧ St w0 w' m d n (setL n L I J V) ∧ w.grownBy w' (some d) := by
  by_cases hc : (0 ≤ I ∧ I < n) ∧ (0 ≤ J ∧ J < 512)
  · exact (setWordE' h I J V hc.1 hc.2 hV).mono fun e w' ⟨a, b, c⟩ => ⟨⟨_, a⟩, b, c⟩
  · have hs : setL n L I J V = L := by unfold setL; rw [if_neg hc]
    rw [hs]
    exact (setWord_no _ _ _ _ _ (h.noWord I J hc)).mono fun e w' ⟨a, b⟩ => ⟨⟨_, a⟩, b ▸ h, b ▸ grown_refl _ _⟩
theorem word_at (h : St w0 w m d n L) (i j : Int) : Calls Try.prog 25 #[.pointer (some ⟨m, 0, none⟩), .int .i64 i, .int .i64 j] w fun e w' => e = .returned (.tuple #[.int .u64 (wordI n L i j), .bool (wordV n L i j).2]) ∧ w = w' := word_any h i j
end
end Go.Proofs.Ytlieommbomjdaaa

namespace Go.Proofs.Ytlieommbomjdaaa
open Go.ChangeShapes Go.WideShapes Go.RowKit
set_option linter.unusedVariables false

section
variable {w0 w w' : World} {r f n : Nat} {R : List Nat} {L : List UInt8}

set_option maxHeartbeats 1000000 in
theorem ref_place (h : RS w0 w r f n R L) (root v : Int) :
    Calls Try.prog 23 #[.pointer (some ⟨r, 0, none⟩), .int .i64 root, .int .i64 v] w fun e w' => e = .returned (plV v (placeOf n L root v)) ∧ w.grownBy w' none := by
  have H := Lib.hid h
  by_cases hr : 0 ≤ root ∧ root < n
  · have HI := Lib.hid (is_any h root true (by simpa using hr))
    by_cases hv0 : v < 0
    · have d0 : decide (v < 0) = true := by simpa using hv0
      have hp : placeOf n L root v = none := by unfold placeOf; rw [if_neg (by omega)]
      rw [hp]
      clear h hr hv0 hp
      go_enter Try.func23, Try.ntmps23
      go_wp2_with fail
      refine HI.out.mono ?_
      rintro e w' ⟨rfl, rfl⟩
      go_wp2_with fail
      go_ret3
      exact ⟨rfl, grown_refl _ _⟩
    · have d0 : decide (v < 0) = false := by simpa using hv0
      by_cases hv1 : v ≥ 134217728
      · have d1 : decide (v ≥ 134217728) = true := by simpa using hv1
        have hp : placeOf n L root v = none := by unfold placeOf; rw [if_neg (by omega)]
        rw [hp]
        clear h hr hv0 hv1 hp
        go_enter Try.func23, Try.ntmps23
        go_wp2_with fail
        refine HI.out.mono ?_
        rintro e w' ⟨rfl, rfl⟩
        go_wp2_with fail
        go_ret3
        exact ⟨rfl, grown_refl _ _⟩
      · have d1 : decide (v ≥ 134217728) = false := by simpa using hv1
        have hp : placeOf n L root v = downOf n L v 2 root := by unfold placeOf; rw [if_pos (by omega)]
        rw [hp]
        have HR := Lib.hid hr
        obtain ⟨D, hD⟩ : ∃ D, downOf n L v 2 root = D := ⟨_, rfl⟩
        rw [hD]
        clear h hr hv0 hv1 hp
        have HD := Lib.hid hD
        clear hD
        go_enter Try.func23, Try.ntmps23
        go_wp2_with fail
        refine HI.out.mono ?_
        rintro e w' ⟨rfl, rfl⟩
        go_wp2_with fail
        go_loopw [9, 10] (fun fv lv wr => ∃ (q : Nat) (fr : Int), q ≤ 2 ∧ lv = .int .i64 q ∧ fv = .int .i64 fr ∧ Hid (0 ≤ fr ∧ fr < n) ∧ Hid (downOf n L v q fr = D) ∧ Hid (w.grownBy wr none) ∧ Hid (RS w0 wr r f n R L)) (fun _ lv _ => (intOf lv).toNat)
        case atStart => exact ⟨2, root, by omega, rfl, rfl, HR.out, HD.out, grown_refl _ _, H.out⟩
        case round =>
          obtain ⟨q, fr, hq, rfl, rfl, HF, HE, HG, HS⟩ := hrel
          match q, hq with
          | 0, _ =>
            have e := Lib.hid (show D = some fr from HE.out.symm)
            go_wp2_with fail
            refine (ref_index_ok _ _ _).mono ?_
            rintro e w' ⟨rfl, rfl⟩
            go_wp2_with fail
            go_ret3
            rw [e.out]
            exact ⟨rfl, HG.out⟩
          | k + 1, hq =>
            have hl : ((k + 1 : Nat) : Int) = (k : Int) + 1 := by omega
            have hx := wordI_ok n L fr (indexOf v ((k : Int) + 1))
            obtain ⟨X, hX⟩ : ∃ X, wordI n L fr (indexOf v ((k : Int) + 1)) = X := ⟨_, rfl⟩
            rw [hX] at hx
            have HDc := Lib.hid (ref_decode_ok X hx)
            have HK0 := ref_kind_ok (flagOf X) (ppnOf X)
            have hnext : nextOf n L v fr ((k + 1 : Nat) : Int) = if kindOf (flagOf X) = 1 ∧ 0 ≤ ppnOf X ∧ ppnOf X < n then some (ppnOf X) else none := by unfold nextOf; rw [hl, hX]
            have HX := Lib.hid hX
            clear hx hX hl
            by_cases hk : kindOf (flagOf X) = 1
            · rw [hk] at HK0
              by_cases hb : 0 ≤ ppnOf X ∧ ppnOf X < n
              · rw [if_pos ⟨hk, hb⟩] at hnext
                have HB := Lib.hid hb
                have HE2 := Lib.hid ((down_some hnext).symm.trans HE.out)
                have HK := Lib.hid HK0
                clear hk hb hnext HK0
                generalize flagOf X = A at *
                generalize ppnOf X = B at *
                go_wp2_with fail
                refine (ref_index_ok _ _ _).mono ?_
                rintro e w' ⟨rfl, rfl⟩
                go_wp2_with fail
                refine (rword_at HS.out _ _).mono ?_
                rintro e w' ⟨rfl, rfl⟩
                rw [HX.out]
                go_wp2_with fail
                refine (HDc.out _).mono ?_
                rintro e w2 ⟨rfl, h2⟩
                have HN2 := Lib.hid (EntAt.new w2 A B 44)
                have HG2 := Lib.hid (grown_trans HG.out (grown_trans (grown_of_below' h2) (World.grownBy_alloc w2 (.cells #[.int .i64 A, .int .i64 B] 44) none)))
                have HS2 := Lib.hid ((HS.out.grow (grown_of_below' h2)).grow (World.grownBy_alloc w2 (.cells #[.int .i64 A, .int .i64 B] 44) none))
                clear h2
                go_wp2_with fail
                refine (HK.out _).mono ?_
                rintro e w3 ⟨rfl, h3⟩
                have hpp := (HN2.out.past h3).ppn
                have HG3 := Lib.hid (grown_trans HG2.out (grown_of_below' h3))
                have HS3 := Lib.hid (HS2.out.grow (grown_of_below' h3))
                clear h3
                go_wp2_with fail
                refine (is_any HS3.out B true (by simpa using HB.out)).mono ?_
                rintro e w' ⟨rfl, rfl⟩
                go_wp2_with fail
                go_round
                case rel => exact ⟨k, B, by omega, by go_num, rfl, HB.out, HE2.out, HG3.out, HS3.out⟩
                case measure => simp [intOf]
              · rw [if_neg (fun h => hb h.2)] at hnext
                have HB := Lib.hid hb
                have HE2 := Lib.hid ((down_none hnext).symm.trans HE.out)
                have HK := Lib.hid HK0
                clear hk hb hnext HK0
                generalize flagOf X = A at *
                generalize ppnOf X = B at *
                go_wp2_with fail
                refine (ref_index_ok _ _ _).mono ?_
                rintro e w' ⟨rfl, rfl⟩
                go_wp2_with fail
                refine (rword_at HS.out _ _).mono ?_
                rintro e w' ⟨rfl, rfl⟩
                rw [HX.out]
                go_wp2_with fail
                refine (HDc.out _).mono ?_
                rintro e w2 ⟨rfl, h2⟩
                have HN2 := Lib.hid (EntAt.new w2 A B 44)
                have HG2 := Lib.hid (grown_trans HG.out (grown_trans (grown_of_below' h2) (World.grownBy_alloc w2 (.cells #[.int .i64 A, .int .i64 B] 44) none)))
                have HS2 := Lib.hid ((HS.out.grow (grown_of_below' h2)).grow (World.grownBy_alloc w2 (.cells #[.int .i64 A, .int .i64 B] 44) none))
                clear h2
                go_wp2_with fail
                refine (HK.out _).mono ?_
                rintro e w3 ⟨rfl, h3⟩
                have hpp := (HN2.out.past h3).ppn
                have HG3 := Lib.hid (grown_trans HG2.out (grown_of_below' h3))
                have HS3 := Lib.hid (HS2.out.grow (grown_of_below' h3))
                clear h3
                go_wp2_with fail
                refine (is_any HS3.out B false (by simpa using HB.out)).mono ?_
                rintro e w' ⟨rfl, rfl⟩
                go_wp2_with fail
                go_ret3
                rw [← HE2.out]
                exact ⟨rfl, HG3.out⟩
            · rw [if_neg (fun h => hk h.1)] at hnext
              have HE2 := Lib.hid ((down_none hnext).symm.trans HE.out)
              have HK := Lib.hid HK0
              have e0 : (kindOf (flagOf X) != 1) = true := by simp [hk]
              clear hk hnext HK0
              generalize kindOf (flagOf X) = kd at *
              generalize flagOf X = A at *
              generalize ppnOf X = B at *
              go_wp2_with fail
              refine (ref_index_ok _ _ _).mono ?_
              rintro e w' ⟨rfl, rfl⟩
              go_wp2_with fail
              refine (rword_at HS.out _ _).mono ?_
              rintro e w' ⟨rfl, rfl⟩
              rw [HX.out]
              go_wp2_with fail
              refine (HDc.out _).mono ?_
              rintro e w2 ⟨rfl, h2⟩
              have HN2 := Lib.hid (EntAt.new w2 A B 44)
              have HG2 := Lib.hid (grown_trans HG.out (grown_trans (grown_of_below' h2) (World.grownBy_alloc w2 (.cells #[.int .i64 A, .int .i64 B] 44) none)))
              have HS2 := Lib.hid ((HS.out.grow (grown_of_below' h2)).grow (World.grownBy_alloc w2 (.cells #[.int .i64 A, .int .i64 B] 44) none))
              clear h2
              go_wp2_with fail
              refine (HK.out _).mono ?_
              rintro e w3 ⟨rfl, h3⟩
              have hpp := (HN2.out.past h3).ppn
              have HG3 := Lib.hid (grown_trans HG2.out (grown_of_below' h3))
              have HS3 := Lib.hid (HS2.out.grow (grown_of_below' h3))
              clear h3
              go_wp2_with fail
              go_ret3
              rw [← HE2.out]
              exact ⟨rfl, HG3.out⟩
  · have HI := Lib.hid (is_any h root false (by simpa using hr))
    have hp : placeOf n L root v = none := by unfold placeOf; rw [if_neg (by omega)]
    rw [hp]
    clear h hr hp
    go_enter Try.func23, Try.ntmps23
    go_wp2_with fail
    refine HI.out.mono ?_
    rintro e w' ⟨rfl, rfl⟩
    go_wp2_with fail
    go_ret3
    exact ⟨rfl, grown_refl _ _⟩
end
end Go.Proofs.Ytlieommbomjdaaa

namespace Go.Proofs.Ytlieommbomjdaaa
open Go.ChangeShapes Go.WideShapes Go.RowKit
set_option linter.unusedVariables false

/-- Two results, the first one a struct in memory. -/
theorem results_row_tmp {P : Program} {fn : Func} {p u : Tmp} {ty : TypeId} (h : fn.results = #[.cell p ty, .tmp u]) (tmps : Array Value) (w : World) (g : Nat) (t : TypeId) (cs : Array Value) (fr : Nat × Nat) (d : TypeDesc)
    (hp : tmps.getD p undef = .pointer (some ⟨g, 0, none⟩)) (hg : w.heap[g]? = some (.cells cs t fr))
    (hu : P.underlying ty = some d) (hd : (match d with | .struct _ | .array _ _ => true | _ => false) = true) (hi : (P.info? ty).map (·.size) = some cs.size) :
    (results fn tmps).run P w = .ok (.tuple #[.agg cs, tmps.getD u undef]) w := by
  rw [results_cell_tmp h, hp]
  simp [asAddr, Result.andThen, run_loadVar_row w g t ty cs fr d hg hu hd hi]

/-- A struct of two cells, stored into. -/
theorem heap_two (w : World) (g : Nat) (x y x' y' : Value) (t : TypeId) (hg : w.heap[g]? = some (.cells #[x, y] t (0, 0))) (h1 : x'.oneCell' = true) (h2 : y'.oneCell' = true) :
    ((w.setCell ⟨g, 0, none⟩ x').setCell ⟨g, 1, none⟩ y').heap[g]? = some (.cells #[x', y'] t (0, 0)) := by
  have h : w.heap[g]? = some (.cells [x, y].toArray t (0, 0)) := hg
  exact heap_setCells h [x', y'] (by simp) (by intro v hv; simp at hv; rcases hv with rfl | rfl <;> assumption)
theorem grown_two (w w2 : World) (o : Obj) (x' y' : Value) (h : (w.alloc o).grownBy w2 none) : w.grownBy ((w2.setCell ⟨w.heap.size, 0, none⟩ x').setCell ⟨w.heap.size, 1, none⟩ y') none :=
  grown_alloc_then (grown_trans (grown_none h) (grown_setCells w2 w.heap.size 0 [x', y']))

section
variable {w0 w w' : World} {r f n : Nat} {R : List Nat} {L : List UInt8}

end
end Go.Proofs.Ytlieommbomjdaaa

namespace Go.Proofs.Ytlieommbomjdaaa
open Go.ChangeShapes Go.WideShapes Go.RowKit
set_option linter.unusedVariables false

theorem EntB.kept {w w' : World} {R : List Nat} {y : Nat} {A B : Int} (h : EntB w y A B) (k : Kept R w w') (hy : y ∉ R) : EntB w' y A B := (k _ h.lt hy).trans h

theorem walkV_no {n : Nat} {L : List UInt8} {r va a k : Int} {u : Bool} (h : wayOf n L r va a u = k) (hk : k ≠ 0) : walkV n L r va a u = .tuple #[.int .i64 k, .int .i64 0, .int .i64 0] := by
  unfold walkV; rw [h, if_neg hk]
theorem walkL_no {n : Nat} {L : List UInt8} {r va a k : Int} {u : Bool} (h : wayOf n L r va a u = k) (hk : k ≠ 0) : walkL n L r va a u = L := by
  unfold walkL; rw [h, if_neg hk]

section
variable {w0 w w' : World} {r f n : Nat} {R : List Nat} {L : List UInt8}

end
end Go.Proofs.Ytlieommbomjdaaa

namespace Go.Proofs.Ytlieommbomjdaaa
open Go.ChangeShapes Go.WideShapes Go.ChangeAt Go.RowKit Go.Deep
set_option linter.unusedVariables false

/-- A word: its frame, its index, and the entry. -/
structure WordV where
  fr : Int
  ix : Int
  fl : Int
  pp : Int

/-- Four cells in memory are a word. -/
structure WordAt (w : World) (g p : Nat) (A : WordV) : Prop where
  c0 : w.cell? ⟨g, p, none⟩ = some (.int .i64 A.fr)
  c1 : w.cell? ⟨g, p + 1, none⟩ = some (.int .i64 A.ix)
  c2 : w.cell? ⟨g, p + 2, none⟩ = some (.int .i64 A.fl)
  c3 : w.cell? ⟨g, p + 3, none⟩ = some (.int .i64 A.pp)

/-- A slice of words. -/
structure WordsAre (w : World) (s : Option Addr) (l : Nat) (Ws : List WordV) : Prop where
  len : Ws.length = l
  cells : l = 0 ∨ ∃ g o, s = some ⟨g, o, none⟩ ∧ ∀ i A, Ws[i]? = some A → WordAt w g (o + i * 4) A

theorem WordAt.below {w w' : World} {g p : Nat} {A : WordV} (h : WordAt w g p A) (b : Below w.heap.size w w') : WordAt w' g p A := by
  have hg : g < w.heap.size := World.block_lt_of_cell? w ⟨g, p, none⟩ h.c0
  have e : ∀ q, w'.cell? ⟨g, q, none⟩ = w.cell? ⟨g, q, none⟩ := fun q => b.cell (p := ⟨g, q, none⟩) hg
  exact ⟨(e _).trans h.c0, (e _).trans h.c1, (e _).trans h.c2, (e _).trans h.c3⟩
theorem WordsAre.below {w w' : World} {s : Option Addr} {l : Nat} {Ws : List WordV} (h : WordsAre w s l Ws) (b : Below w.heap.size w w') : WordsAre w' s l Ws := by
  refine ⟨h.len, ?_⟩
  rcases h.cells with h0 | ⟨g, o, hs, hc⟩
  · exact .inl h0
  · exact .inr ⟨g, o, hs, fun i A hi => (hc i A hi).below b⟩
theorem WordsAre.get {w : World} {s : Option Addr} {l : Nat} {Ws : List WordV} (h : WordsAre w s l Ws) (q : Nat) (hq : q < l) : ∃ A g o, Ws[q]? = some A ∧ s = some ⟨g, o, none⟩ ∧ WordAt w g (o + q * 4) A := by
  rcases h.cells with h0 | ⟨g, o, hs, hc⟩
  · omega
  · exact ⟨_, g, o, List.getElem?_eq_getElem (by rw [h.len]; exact hq), hs, hc q _ (List.getElem?_eq_getElem (by rw [h.len]; exact hq))⟩

/-- The bytes that words leave. -/
def madeL (L : List UInt8) : List WordV → List UInt8
  | [] => L
  | A :: Ws => madeL (setL 8 L A.fr A.ix (encOf A.fl A.pp)) Ws
theorem madeL_snoc (A : WordV) : ∀ (Ws : List WordV) (L : List UInt8), madeL L (Ws ++ [A]) = setL 8 (madeL L Ws) A.fr A.ix (encOf A.fl A.pp)
  | [], _ => rfl
  | B :: Ws, L => madeL_snoc A Ws _
def noL : List UInt8 := List.replicate (8 * 4096) 0

theorem okU_encOf (F P : Int) : okU (encOf F P) := by unfold encOf; exact ⟨by omega, by omega⟩

theorem St.lower {w0 w1 w : World} {m d n : Nat} {L : List UInt8} (h : St w1 w m d n L) (b : Below w0.heap.size w0 w1) : St w0 w m d n L :=
  ⟨h.mem, b.trans (h.below.mono b.size), Nat.le_trans b.size h.dge, Nat.le_trans b.size h.mge⟩
theorem RS.lower {w0 w1 w : World} {r f n : Nat} {R : List Nat} {L : List UInt8} (h : RS w1 w r f n R L) (b : Below w0.heap.size w0 w1) : RS w0 w r f n R L :=
  ⟨h.mem, b.trans (h.below.mono b.size), Nat.le_trans b.size h.rge, Nat.le_trans b.size h.fge, fun p hp => Nat.le_trans b.size (h.Rge p hp)⟩
theorem Two.lower {w0 w1 w : World} {m d r f n : Nat} {R : List Nat} {L M : List UInt8} (h : Two w1 w m d r f n R L M) (b : Below w0.heap.size w0 w1) : Two w0 w m d r f n R L M :=
  ⟨h.st.lower b, h.rs.lower b, h.dR, h.mR, h.dr, h.df⟩

/-- One memory's word stored, and the other one's. -/
theorem Two.left {w0 w w' : World} {m d r f n : Nat} {R : List Nat} {L L' M : List UInt8} (h : Two w0 w m d r f n R L M) (s : St w0 w' m d n L') (g : w.grownBy w' (some d)) : Two w0 w' m d r f n R L' M :=
  ⟨s, h.rs.grow' g h.st.dge h.dr h.df h.dR, h.dR, h.mR, h.dr, h.df⟩
theorem Two.right {w0 w w' : World} {m d r f n : Nat} {R : List Nat} {L M M' : List UInt8} (h : Two w0 w m d r f n R L M) (s : RS w0 w' r f n R M') (k : Kept R w w') : Two w0 w' m d r f n R L M' :=
  ⟨h.st.past k s.below h.mR h.dR, s, h.dR, h.mR, h.dr, h.df⟩

end Go.Proofs.Ytlieommbomjdaaa

namespace Go.Proofs.Ytlieommbomjdaaa
open Go.ChangeShapes Go.WideShapes Go.ChangeAt Go.RowKit Go.Deep
set_option linter.unusedVariables false

theorem list_of_forall {α : Type} (l : Nat) (P : Nat → α → Prop) (h : ∀ i, i < l → ∃ a, P i a) : ∃ zs : List α, zs.length = l ∧ ∀ i a, zs[i]? = some a → P i a := by
  induction l with
  | zero => exact ⟨[], rfl, by simp⟩
  | succ l ih =>
    obtain ⟨zs, hl, ha⟩ := ih fun i hi => h i (by omega)
    obtain ⟨b, hb⟩ := h l (by omega)
    refine ⟨zs ++ [b], by simp [hl], fun i a hi => ?_⟩
    by_cases hil : i < l
    · rw [List.getElem?_append_left (by omega)] at hi
      exact ha i a hi
    · rw [List.getElem?_append_right (by omega)] at hi
      have h2 : i - zs.length = 0 := by
        have := (List.getElem?_eq_some_iff.1 hi).1
        simp at this
        omega
      rw [h2] at hi
      simp at hi
      subst hi
      have : i = l := by omega
      rw [this]
      exact hb

theorem len4 {α : Type} {l : List α} (h : l.length = 4) : ∃ a b c d, l = [a, b, c, d] := by
  match l, h with
  | [a, b, c, d], _ => exact ⟨a, b, c, d, rfl⟩

end Go.Proofs.Ytlieommbomjdaaa

namespace Go.Proofs.Ytlieommbomjdaaa
open Go.ChangeShapes Go.WideShapes Go.ChangeAt Go.RowKit Go.Deep
open Extern.Stop (cell)
set_option linter.unusedVariables false

theorem src_block {w : World} {g : Nat} {bs : List UInt8} {t : TypeId} (h : w.heap[g]? = some (.cells (bs.map cell).toArray t (0, 0))) : Src w (some ⟨g, 0, none⟩) bs.length bs := by
  refine ⟨rfl, .inr ⟨g, 0, rfl, fun j v hv => ?_⟩⟩
  rw [cell_of_row _ _ _ _ _ _ h]
  simpa using hv

theorem src_len {w : World} {s : Option Addr} {l k : Nat} {bs : List UInt8} (h : Src w s l bs) (e : l = k) : Src w s k bs := e ▸ h
theorem grown_cell {w w' : World} {a : Addr} {v : Value} (h : w.cell? a = some v) (g : w.grownBy w' none) : w'.cell? a = some v :=
  ((below_of_grown g (Nat.le_refl _) (by simp)).cell (World.block_lt_of_cell? w _ h)).trans h
theorem grown_two_cells {w w' : World} {a b : Addr} {x y : Value} (h : w.cell? a = some x ∧ w.cell? b = some y) (g : w.grownBy w' none) : w'.cell? a = some x ∧ w'.cell? b = some y := ⟨grown_cell h.1 g, grown_cell h.2 g⟩

end Go.Proofs.Ytlieommbomjdaaa
