/- PteGrants, walked: it answers true, and nothing that was there has turned. -/
import Derived.Test.YtkpbkmfogkkheaaPteLives
namespace Go.Proofs.Ytkpbkmfogkkheaa
open Go.ChangeShapes Go.WideShapes Go.RowKit
set_option linter.unusedVariables false

def wantOf (p : Int) : Int := if bit p 2 = true then bits .or .i64 p 1 else p

theorem grant_facts : ∀ (j : Fin 8) (u : Bool), j.val ≠ 0 → kindOf (flagsOf (j.val : Int) u) = 2 ∧ protOf (flagsOf (j.val : Int) u) = wantOf (j.val : Int) ∧
    (mayOf (flagsOf (j.val : Int) u) 1 u = bit (wantOf (j.val : Int)) 1 ∧ mayOf (flagsOf (j.val : Int) u) 2 u = bit (wantOf (j.val : Int)) 2 ∧ mayOf (flagsOf (j.val : Int) u) 4 u = bit (wantOf (j.val : Int)) 4) ∧
    (mayOf (flagsOf (j.val : Int) u) 1 (!u) = false ∧ mayOf (flagsOf (j.val : Int) u) 2 (!u) = false ∧ mayOf (flagsOf (j.val : Int) u) 4 (!u) = false) := by
  decide

theorem grant_at (p : Int) (u : Bool) (h0 : 0 < p) (h1 : p < 8) : kindOf (flagsOf p u) = 2 ∧ protOf (flagsOf p u) = wantOf p ∧
    (mayOf (flagsOf p u) 1 u = bit (wantOf p) 1 ∧ mayOf (flagsOf p u) 2 u = bit (wantOf p) 2 ∧ mayOf (flagsOf p u) 4 u = bit (wantOf p) 4) ∧
    (mayOf (flagsOf p u) 1 (!u) = false ∧ mayOf (flagsOf p u) 2 (!u) = false ∧ mayOf (flagsOf p u) 4 (!u) = false) := by
  have h := grant_facts ⟨p.toNat, by omega⟩ u (by show p.toNat ≠ 0; omega)
  have e : ((p.toNat : Nat) : Int) = p := by omega
  simp only [e] at h
  exact h

theorem cmp_bit (x k : Int) (hk : IsBit k) : decide (bits .and .i64 x k > 0) = bit x k := by
  rw [and_bit x k hk]
  cases bit x k
  · simp [one]
  · rcases hk with rfl | rfl | rfl | rfl | rfl <;> rfl

/-- The entry that was made, and the row of rights. -/
structure GrantW (w wr : World) (Y Z : Nat) (f : Int) : Prop where
  below : Below w.heap.size w wr
  ent : EntAt wr Y f 1
  row : Ints wr (some ⟨Z, 0, none⟩) 3 [1, 2, 4]

theorem Ints.past {w w' : World} {s : Option Addr} {l : Nat} {xs : List Int} (h : Ints w s l xs) (b : Below w.heap.size w w') : Ints w' s l xs := by
  refine ⟨h.len, ?_⟩
  rcases h.cells with h0 | ⟨g, o, hs, hc⟩
  · exact .inl h0
  · refine .inr ⟨g, o, hs, fun i x hi => ?_⟩
    have := hc i x hi
    exact (b.cell (p := ⟨g, o + i, none⟩) (World.block_lt_of_cell? w _ this)).trans this

theorem GrantW.past {w wr w' : World} {Y Z : Nat} {f : Int} (h : GrantW w wr Y Z f) (b : Below wr.heap.size wr w') : GrantW w w' Y Z f :=
  ⟨h.below.trans (b.mono h.below.size), h.ent.past b, h.row.past b⟩
theorem GrantW.at {w wr : World} {Y Z : Nat} {f : Int} (h : GrantW w wr Y Z f) (i : Nat) (x : Int) (hi : [(1 : Int), 2, 4][i]? = some x) : wr.cell? ⟨Z, i, none⟩ = some (.int .i64 x) := by
  rcases h.row.cells with h0 | ⟨g, o, hs, hc⟩
  · cases h0
  · cases hs
    have := hc i x hi
    rwa [Nat.zero_add] at this

theorem entAt_alloc {w : World} {b : Nat} {F P : Int} (h : EntAt w b F P) (o : Obj) : EntAt (w.alloc o) b F P := h.past ((Below.refl _ _).alloc (Nat.le_refl _) o)

set_option maxHeartbeats 4000000 in
theorem grants_walk (w : World) (p0 : Int) (u : Bool) (hp : okU p0) :
    Calls Try.prog 8 #[.int .u64 p0, .bool u] w fun e w' => e = .returned (.bool true) ∧ Below w.heap.size w w' := by
  obtain ⟨p1, p2⟩ := hp
  have q0 : 0 ≤ p0 % 8 := by omega
  have q1 : p0 % 8 < 8 := by omega
  by_cases hz : p0 % 8 = 0
  · have HF0 := flagsOf_ok (p0 % 8) u
    rw [show flagsOf (p0 % 8) u = 0 by rw [hz]; rfl] at HF0
    have HF := Lib.hid HF0
    have HK0 := kind_ok 0 1
    rw [show kindOf 0 = 0 by decide] at HK0
    have HK := Lib.hid HK0
    have HN := Lib.hid (fun w => EntAt.new w 0 1 23)
    have e0 : (p0 % 8 == 0) = true := by simp [hz]
    clear HF0 HK0 hz
    go_enter Try.func8, Try.ntmps8
    go_wp2_with fail
    generalize p0 % 8 = p at *
    refine (HF.out _).mono ?_
    rintro e w2 ⟨rfl, h2⟩
    have HW := Lib.hid (h2.alloc h2.size (.cells #[.int .i64 0, .int .i64 1] 23))
    clear h2
    go_wp2_with fail
    refine (HK.out _).mono ?_
    rintro e w3 ⟨rfl, h3⟩
    have HV := Lib.hid (HW.out.trans (h3.mono HW.out.size))
    clear h3
    go_wp2_with fail
    refine (lives_ok _).mono ?_
    rintro e w8 ⟨rfl, h8⟩
    have HY := Lib.hid (HV.out.trans (h8.mono HV.out.size))
    clear h8
    go_wp2_with fail
    go_ret
    exact ⟨rfl, HY.out⟩
  · obtain ⟨g1, g2, ⟨g3, g4, g5⟩, g6, g7, g8⟩ := grant_at (p0 % 8) u (by omega) q1
    have HF := Lib.hid (flagsOf_ok (p0 % 8) u)
    have c2 := cmp_bit (p0 % 8) 2 isBit_2
    have e0 : (p0 % 8 == 0) = false := by simp [hz]
    have hwant : wantOf (p0 % 8) = if bit (p0 % 8) 2 = true then bits .or .i64 (p0 % 8) 1 else p0 % 8 := rfl
    generalize flagsOf (p0 % 8) u = fl at *
    have HK0 := kind_ok fl 1
    have HP0 := prot_ok fl 1
    have M1 := may_ok fl 1 1 u
    have M2 := may_ok fl 1 2 u
    have M4 := may_ok fl 1 4 u
    have N1 := may_ok fl 1 1 (!u)
    have N2 := may_ok fl 1 2 (!u)
    have N4 := may_ok fl 1 4 (!u)
    have d1 := cmp_bit (wantOf (p0 % 8)) 1 isBit_1
    have d2 := cmp_bit (wantOf (p0 % 8)) 2 isBit_2
    have d4 := cmp_bit (wantOf (p0 % 8)) 4 isBit_4
    rw [g1] at HK0
    rw [g2] at HP0
    rw [g3] at M1
    rw [g4] at M2
    rw [g5] at M4
    rw [g6] at N1
    rw [g7] at N2
    rw [g8] at N4
    generalize wantOf (p0 % 8) = W at *
    generalize bit W 1 = a1 at *
    generalize bit W 2 = a2 at *
    generalize bit W 4 = a4 at *
    have HK := Lib.hid HK0
    have HP := Lib.hid HP0
    have HM1 := Lib.hid M1
    have HM2 := Lib.hid M2
    have HM4 := Lib.hid M4
    have HN1 := Lib.hid N1
    have HN2 := Lib.hid N2
    have HN4 := Lib.hid N4
    clear HK0 HP0 M1 M2 M4 N1 N2 N4 g1 g2 g3 g4 g5 g6 g7 g8 hz
    cases hb : bit (p0 % 8) 2
    · rw [hb] at c2
      rw [hb, if_neg (by decide)] at hwant
      rw [hwant] at d1 d2 d4 HP
      obtain rfl : a2 = false := d2.symm.trans c2
      clear d2
      clear hb hwant
      go_enter Try.func8, Try.ntmps8
      go_wp2_with fail
      refine (HF.out _).mono ?_
      rintro e w2 ⟨rfl, h2⟩
      have HG := Lib.hid (show GrantW w ((w2.alloc (.cells #[.int .i64 fl, .int .i64 1] 23)).alloc (.cells #[.int .i64 1, .int .i64 2, .int .i64 4] 3)) w2.heap.size (w2.heap.size + 1) fl from
        ⟨(h2.alloc h2.size _).alloc (Nat.le_trans h2.size (by simp)) _, entAt_alloc (EntAt.new w2 fl 1 23) _, by have h := ints_new (w2.alloc (.cells #[.int .i64 fl, .int .i64 1] 23)) 0 [1, 2, 4] 3; rw [show (w2.alloc (.cells #[.int .i64 fl, .int .i64 1] 23)).heap.size = w2.heap.size + 1 by simp] at h; exact h⟩)
      clear h2
      go_wp2_with fail
      go_loopw [33] (fun k wr => ∃ q : Nat, q ≤ 3 ∧ k = .int .i64 q ∧ Hid (GrantW w wr w2.heap.size (w2.heap.size + 1) fl)) (fun k _ => 3 - (intOf k).toNat)
      case atStart => exact ⟨0, by omega, rfl, HG.out⟩
      case round =>
        obtain ⟨q, hq, rfl, HR⟩ := hrel
        have hq4 : q = 0 ∨ q = 1 ∨ q = 2 ∨ q = 3 := by omega
        rcases hq4 with rfl | rfl | rfl | rfl
        · have hc := HR.out.at 0 1 rfl
          have he := HR.out.ent.flags
          have he1 := HR.out.ent.ppn
          go_wp2_with fail
          refine (HM1.out _).mono ?_
          rintro e w3 ⟨rfl, h3⟩
          have HS := Lib.hid (HR.out.past h3)
          clear h3 hc he he1
          have he := HS.out.ent.flags
          have he1 := HS.out.ent.ppn
          go_wp2_with fail
          refine (HN1.out _).mono ?_
          rintro e w4 ⟨rfl, h4⟩
          have HT := Lib.hid (HS.out.past h4)
          clear h4 he he1
          go_wp2_with fail
          go_round
          case rel => exact ⟨1, by omega, rfl, HT.out⟩
          case measure => simp [intOf]
        · have hc := HR.out.at 1 2 rfl
          have he := HR.out.ent.flags
          have he1 := HR.out.ent.ppn
          go_wp2_with fail
          refine (HM2.out _).mono ?_
          rintro e w3 ⟨rfl, h3⟩
          have HS := Lib.hid (HR.out.past h3)
          clear h3 hc he he1
          have he := HS.out.ent.flags
          have he1 := HS.out.ent.ppn
          go_wp2_with fail
          refine (HN2.out _).mono ?_
          rintro e w4 ⟨rfl, h4⟩
          have HT := Lib.hid (HS.out.past h4)
          clear h4 he he1
          go_wp2_with fail
          go_round
          case rel => exact ⟨2, by omega, rfl, HT.out⟩
          case measure => simp [intOf]
        · have hc := HR.out.at 2 4 rfl
          have he := HR.out.ent.flags
          have he1 := HR.out.ent.ppn
          go_wp2_with fail
          refine (HM4.out _).mono ?_
          rintro e w3 ⟨rfl, h3⟩
          have HS := Lib.hid (HR.out.past h3)
          clear h3 hc he he1
          have he := HS.out.ent.flags
          have he1 := HS.out.ent.ppn
          go_wp2_with fail
          refine (HN4.out _).mono ?_
          rintro e w4 ⟨rfl, h4⟩
          have HT := Lib.hid (HS.out.past h4)
          clear h4 he he1
          go_wp2_with fail
          go_round
          case rel => exact ⟨3, by omega, rfl, HT.out⟩
          case measure => simp [intOf]
        · have he := HR.out.ent.flags
          have he1 := HR.out.ent.ppn
          go_wp2_with fail
          refine (HK.out _).mono ?_
          rintro e w3 ⟨rfl, h3⟩
          have HS := Lib.hid (HR.out.past h3)
          clear h3 he he1
          have he := HS.out.ent.flags
          have he1 := HS.out.ent.ppn
          go_wp2_with fail
          refine (HP.out _).mono ?_
          rintro e w4 ⟨rfl, h4⟩
          have HT := Lib.hid (HS.out.past h4)
          clear h4 he he1
          go_wp2_with fail
          refine (lives_ok _).mono ?_
          rintro e w8 ⟨rfl, h8⟩
          have HY := Lib.hid (HT.out.past h8)
          clear h8
          go_wp2_with fail
          go_ret
          exact ⟨rfl, HY.out.below⟩
    · rw [hb] at c2
      rw [hb, if_pos rfl] at hwant
      have hor : bits .or .i64 (p0 % 8) 1 = W := hwant.symm
      clear hb hwant
      go_enter Try.func8, Try.ntmps8
      go_wp2_with fail
      refine (HF.out _).mono ?_
      rintro e w2 ⟨rfl, h2⟩
      have HG := Lib.hid (show GrantW w ((w2.alloc (.cells #[.int .i64 fl, .int .i64 1] 23)).alloc (.cells #[.int .i64 1, .int .i64 2, .int .i64 4] 3)) w2.heap.size (w2.heap.size + 1) fl from
        ⟨(h2.alloc h2.size _).alloc (Nat.le_trans h2.size (by simp)) _, entAt_alloc (EntAt.new w2 fl 1 23) _, by have h := ints_new (w2.alloc (.cells #[.int .i64 fl, .int .i64 1] 23)) 0 [1, 2, 4] 3; rw [show (w2.alloc (.cells #[.int .i64 fl, .int .i64 1] 23)).heap.size = w2.heap.size + 1 by simp] at h; exact h⟩)
      clear h2
      go_wp2_with fail
      go_loopw [33] (fun k wr => ∃ q : Nat, q ≤ 3 ∧ k = .int .i64 q ∧ Hid (GrantW w wr w2.heap.size (w2.heap.size + 1) fl)) (fun k _ => 3 - (intOf k).toNat)
      case atStart => exact ⟨0, by omega, rfl, HG.out⟩
      case round =>
        obtain ⟨q, hq, rfl, HR⟩ := hrel
        have hq4 : q = 0 ∨ q = 1 ∨ q = 2 ∨ q = 3 := by omega
        rcases hq4 with rfl | rfl | rfl | rfl
        · have hc := HR.out.at 0 1 rfl
          have he := HR.out.ent.flags
          have he1 := HR.out.ent.ppn
          go_wp2_with fail
          refine (HM1.out _).mono ?_
          rintro e w3 ⟨rfl, h3⟩
          have HS := Lib.hid (HR.out.past h3)
          clear h3 hc he he1
          have he := HS.out.ent.flags
          have he1 := HS.out.ent.ppn
          go_wp2_with fail
          refine (HN1.out _).mono ?_
          rintro e w4 ⟨rfl, h4⟩
          have HT := Lib.hid (HS.out.past h4)
          clear h4 he he1
          go_wp2_with fail
          go_round
          case rel => exact ⟨1, by omega, rfl, HT.out⟩
          case measure => simp [intOf]
        · have hc := HR.out.at 1 2 rfl
          have he := HR.out.ent.flags
          have he1 := HR.out.ent.ppn
          go_wp2_with fail
          refine (HM2.out _).mono ?_
          rintro e w3 ⟨rfl, h3⟩
          have HS := Lib.hid (HR.out.past h3)
          clear h3 hc he he1
          have he := HS.out.ent.flags
          have he1 := HS.out.ent.ppn
          go_wp2_with fail
          refine (HN2.out _).mono ?_
          rintro e w4 ⟨rfl, h4⟩
          have HT := Lib.hid (HS.out.past h4)
          clear h4 he he1
          go_wp2_with fail
          go_round
          case rel => exact ⟨2, by omega, rfl, HT.out⟩
          case measure => simp [intOf]
        · have hc := HR.out.at 2 4 rfl
          have he := HR.out.ent.flags
          have he1 := HR.out.ent.ppn
          go_wp2_with fail
          refine (HM4.out _).mono ?_
          rintro e w3 ⟨rfl, h3⟩
          have HS := Lib.hid (HR.out.past h3)
          clear h3 hc he he1
          have he := HS.out.ent.flags
          have he1 := HS.out.ent.ppn
          go_wp2_with fail
          refine (HN4.out _).mono ?_
          rintro e w4 ⟨rfl, h4⟩
          have HT := Lib.hid (HS.out.past h4)
          clear h4 he he1
          go_wp2_with fail
          go_round
          case rel => exact ⟨3, by omega, rfl, HT.out⟩
          case measure => simp [intOf]
        · have he := HR.out.ent.flags
          have he1 := HR.out.ent.ppn
          go_wp2_with fail
          refine (HK.out _).mono ?_
          rintro e w3 ⟨rfl, h3⟩
          have HS := Lib.hid (HR.out.past h3)
          clear h3 he he1
          have he := HS.out.ent.flags
          have he1 := HS.out.ent.ppn
          go_wp2_with fail
          refine (HP.out _).mono ?_
          rintro e w4 ⟨rfl, h4⟩
          have HT := Lib.hid (HS.out.past h4)
          clear h4 he he1
          go_wp2_with fail
          refine (lives_ok _).mono ?_
          rintro e w8 ⟨rfl, h8⟩
          have HY := Lib.hid (HT.out.past h8)
          clear h8
          go_wp2_with fail
          go_ret
          exact ⟨rfl, HY.out.below⟩
end Go.Proofs.Ytkpbkmfogkkheaa
