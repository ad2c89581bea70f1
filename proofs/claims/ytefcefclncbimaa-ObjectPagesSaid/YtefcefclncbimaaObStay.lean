/- ObjectStays: what it asks of the plain list; a pool and a row of numbers apart; the law's 'with'. -/
import Derived.Test.YtefcefclncbimaaObNo
namespace Go.Proofs.Ytefcefclncbimaa
open Go.ChangeShapes Go.WideShapes Go.ChangeAt Go.RowKit Go.Deep
set_option linter.unusedVariables false

def withZ (Z : List Int) (k : Int) : List Int := if k ∈ Z then Z else Z ++ [k]
/-- Rising pages, at these indexes. -/
structure KeysO (l : PgL) (Z : List Int) : Prop where
  good : GoodPs l
  keys : (l.map (·.1)).Perm Z
section
variable {l : PgL} {Z : List Int} {k : Int} {x : PgV}
theorem KeysO.nil : KeysO [] [] := ⟨GoodPs.nil, List.Perm.refl _⟩
theorem KeysO.nodup (h : KeysO l Z) : Z.Nodup := h.keys.nodup_iff.1 h.good.nodup
theorem KeysO.len (h : KeysO l Z) : l.length = Z.length := by rw [← h.keys.length_eq, List.length_map]
theorem KeysO.has (h : KeysO l Z) : k ∈ Z ↔ ∃ y, lookO l k = some y := by
  rw [← h.keys.mem_iff]
  constructor
  · intro hm
    obtain ⟨n, hn, rfl⟩ := List.mem_map.1 hm
    exact ⟨n.2, look_at h.good hn⟩
  · rintro ⟨y, hy⟩
    exact List.mem_map.2 ⟨_, look_some hy, rfl⟩
theorem KeysO.hasNo (h : KeysO l Z) (hk : k ∉ Z) : lookO l k = none := by
  cases e : lookO l k with
  | none => rfl
  | some y => exact absurd (h.has.2 ⟨y, e⟩) hk
theorem del_map : (delO l k).map (·.1) = (l.map (·.1)).filter fun z => decide (z ≠ k) := by
  unfold delO
  rw [List.filter_map]
  rfl
theorem perm_erase {Z : List Int} (hd : Z.Nodup) (hm : k ∈ Z) : (k :: Z.filter fun z => decide (z ≠ k)).Perm Z := by
  induction Z with
  | nil => cases hm
  | cons y Z ih =>
    rw [List.nodup_cons] at hd
    by_cases e : y = k
    · subst e
      rw [List.filter_cons_of_neg (by simp), List.filter_eq_self.2 fun z hz => by simp; exact fun e => hd.1 (e ▸ hz)]
    · rw [List.filter_cons_of_pos (by simpa using e)]
      refine (List.Perm.swap _ _ _).trans ((ih hd.2 ?_).cons y)
      rcases List.mem_cons.1 hm with h1 | h1
      · exact absurd h1.symm e
      · exact h1
theorem KeysO.put (h : KeysO l Z) (hk : 0 ≤ k ∧ k < 4096) : KeysO (insO l k x) (withZ Z k) := by
  refine ⟨h.good.ins hk x, ?_⟩
  have h1 := (ins_perm l k x).map (·.1)
  rw [List.map_cons, del_map] at h1
  refine h1.trans ?_
  refine List.Perm.trans ((h.keys.filter _).cons k) ?_
  unfold withZ
  split
  · rename_i hm
    exact perm_erase h.nodup hm
  · rename_i hm
    rw [List.filter_eq_self.2 fun z hz => by simp; exact fun e => hm (e ▸ hz)]
    exact (List.perm_append_comm (l₁ := [k]) (l₂ := Z))
/-- The first one goes. -/
theorem KeysO.del (h : KeysO l (k :: Z)) : KeysO (delO l k) Z := by
  refine ⟨h.good.filter _, ?_⟩
  rw [del_map]
  refine (h.keys.filter _).trans ?_
  have hd := h.nodup
  rw [List.nodup_cons] at hd
  rw [List.filter_cons_of_neg (by simp), List.filter_eq_self.2 fun z hz => by simp; exact fun e => hd.1 (e ▸ hz)]
theorem withZ_len : (withZ Z k).length ≤ Z.length + 1 := by unfold withZ; split <;> simp
end

/-! ### a pool of one place -/
section
variable {n k f : Int} {l : PgL} {x : PgV} {o : ObV}
theorem one_make : makeO 3 [] 7 = ⟨1, 0, [some ⟨7, 1, []⟩]⟩ := by rfl
theorem one_busy : makeO 3 [some ⟨7, 1, []⟩] 7 = ⟨0, 8, [some ⟨7, 1, []⟩]⟩ := by rfl
theorem one_ref (h : mayO o.re n) : refO [some o] 1 n = ⟨o.re + n, 0, [tidyO ⟨o.file, o.re + n, o.L⟩]⟩ := ref_eq (L := [some o]) (i := 0) rfl h
theorem one_put (h : 0 ≤ k ∧ k < 4096) : putPO [some o] 1 k x = ⟨0, 0, [some ⟨o.file, o.re, insO o.L k x⟩]⟩ := putP_eq (L := [some o]) (i := 0) rfl h
theorem one_get : getO [some o] 1 k = lookO o.L k := by unfold getO; rw [show ofO [some o] 1 = some o from ofO_at (L := [some o]) (i := 0) rfl]
theorem none_get : getO [none] 1 k = none := by rfl
theorem one_drop {y : PgV} (h : lookO o.L k = some y) : dropL [some o] 1 k = [tidyO ⟨o.file, o.re, delO o.L k⟩] := drop_eq (L := [some o]) (i := 0) rfl (by rw [show ((0 : Nat) : Int) + 1 = 1 from rfl, one_get]; exact h)
theorem one_find : findO [some ⟨7, n, l⟩] 7 = 1 := by rfl
theorem none_find : findO [none] 7 = 0 := by rfl
theorem one_file : fileO [some o] 1 = o.file := by unfold fileO; rw [show ofO [some o] 1 = some o from ofO_at (L := [some o]) (i := 0) rfl]
theorem none_make : makeO 3 [none] 0 = ⟨1, 0, [some ⟨0, 1, []⟩]⟩ := by rfl
theorem last_find : findO [some ⟨0, 1, []⟩] 7 = 0 := by rfl
end

/-- A pool, and a row of numbers that is none of its blocks. -/
structure SJ (D : World → Nat → Nat → ObL → List Nat → Prop) (w wx : World) (p m : Nat) (L : ObL) (O : List Nat) (u : Value) (Z : List Int) : Prop where
  o : LO D w wx p m L O
  row : RowOf zCells 1 wx u Z
  ap : ∀ b, u.ownBlock = some b → b ∉ O
theorem zrow_lt {w : World} {u : Value} {zs : List Int} (h : RowOf zCells 1 w u zs) {b : Nat} (hb : u.ownBlock = some b) : b < w.heap.size := by
  rcases h.2 with ⟨h0, _⟩ | ⟨g, o, c, hv, hg, hc⟩
  · rw [h0] at hb; cases hb
  · rw [hv] at hb
    have e : g = b := by simpa [Value.ownBlock] using hb
    rw [← e]; exact hg
section
variable {D : World → Nat → Nat → ObL → List Nat → Prop} {w wx w2 : World} {p m : Nat} {L L' : ObL} {O : List Nat} {u u' : Value} {Z Z' : List Int}
theorem SJ.grow (H : StOkO D) (h : SJ D w wx p m L O u Z) (g : wx.grownBy w2 none) : SJ D w w2 p m L O u Z := ⟨h.o.grow H g, rowOf_grow h.row g, h.ap⟩
theorem SJ.left (h : SJ D w wx p m L O u Z) (t : ALo D wx w2 p m O L') : ∃ O', SJ D w w2 p m L' O' u Z := by
  obtain ⟨O', h2, t2, o2⟩ := h.o.left t
  refine ⟨O', h2, row_turn h.row t2 h.ap, fun b hb hm => ?_⟩
  rcases o2 b hm with h3 | h3
  · exact h.ap b hb h3
  · have := zrow_lt h.row hb; omega
theorem SJ.rerow (H : StOkO D) (h : SJ D w wx p m L O u Z) (g : wx.grownBy w2 none) (hr : RowOf zCells 1 w2 u' Z') (hu : ∀ b, u'.ownBlock = some b → u.ownBlock = some b ∨ wx.heap.size ≤ b) : SJ D w w2 p m L O u' Z' :=
  ⟨h.o.grow H g, hr, fun b hb hm => by
    rcases hu b hb with h3 | h3
    · exact h.ap b h3 hm
    · have := H.lt h.o.d b hm; omega⟩
end
set_option maxHeartbeats 1000000 in
theorem with_ok {w : World} {u : Value} {Z : List Int} (h : RowOf zCells 1 w u Z) (hl : Z.length ≤ 4096) (k : Int) : Calls Try.prog 30 #[u, .int .i64 k] w fun e w' => ∃ u', e = .returned u' ∧ RowOf zCells 1 w' u' (withZ Z k) ∧ (∀ b, u'.ownBlock = some b → u.ownBlock = some b ∨ w.heap.size ≤ b) ∧ w.grownBy w' none := by
  obtain ⟨su, cu, rfl⟩ := rowOf_form h
  have HU := Lib.hid h
  clear h
  go_enter Try.func30, Try.ntmps30
  go_wp2_with fail
  go_loopw [9] (fun iv wr => ∃ j : Nat, j ≤ Z.length ∧ iv = .int .i64 j ∧ Hid (∀ z, z ∈ Z.take j → z ≠ k) ∧ wr = w) (fun iv _ => Z.length - (intOf iv).toNat)
  case atStart => exact ⟨0, by omega, rfl, (fun z hz => by simp at hz), rfl⟩
  case round =>
    obtain ⟨j, hj, rfl, HN, rfl⟩ := hrel
    by_cases hlt : j < Z.length
    · obtain ⟨z, hz⟩ : ∃ z, Z[j]? = some z := ⟨_, List.getElem?_eq_getElem hlt⟩
      obtain ⟨g0, o0, c0, hv, k0⟩ := z_cells HU.out hz
      injection hv with e1 e2 e3
      subst e1 e3
      by_cases e : z = k
      · subst e
        have HW := Lib.hid (show withZ Z z = Z from if_pos (List.mem_of_getElem? hz))
        clear hz HN
        go_wp2_with fail
        go_ret
        exact ⟨_, rfl, by rw [HW.out]; exact HU.out, fun b hb => .inl hb, grown_refl _ _⟩
      · have HN2 := Lib.hid (show ∀ y, y ∈ Z.take (j + 1) → y ≠ k from fun y hy => by
          rw [takel_at hz] at hy
          rcases List.mem_append.1 hy with h1 | h1
          · exact HN.out y h1
          · rw [List.mem_singleton.1 h1]; exact e)
        clear hz HN
        go_wp2_with fail
        go_roundw
        case rel => exact ⟨j + 1, by omega, by go_num, HN2, by trivial⟩
        case measure => simp [intOf]; omega
    · obtain rfl : j = Z.length := by omega
      have HW := Lib.hid (show withZ Z k = Z ++ [k] from if_neg fun hm => HN.out k (by rw [List.take_length]; exact hm) rfl)
      have HA := Lib.hid (rowOf_grow HU.out (World.grownBy_alloc wr (.cells #[] 3) none))
      clear HN
      go_wp2_with (first
        | (at_builtin; refine wpList_zcopy wr rfl _ _ rfl _ Z wr.heap.size rfl rfl rfl HA.out (by omega) ?_; intro g8 c8 w8 hown8 hg8; have HO8 := Lib.hid hown8; have HG8 := Lib.hid hg8; clear hown8 hg8)
        | (at_builtin; refine wpList_zpush w8 rfl _ _ rfl wr.heap.size (.slice (some ⟨g8, 0, none⟩) Z.length c8) Z k rfl HO8.out w8.heap.size 1 rfl rfl (by omega) HG8.out.size ?_; intro g9 c9 w9 hown9 hgrow9; have HO9 := Lib.hid hown9; have HG9 := Lib.hid hgrow9; clear hown9 hgrow9))
      go_ret
      have hb : ∀ b, (Value.slice (some ⟨g8, 0, none⟩) Z.length c8).ownBlock = some b → wr.heap.size ≤ b := fun b hb => (OwnOf.lt HO8.out hb).1
      have hr9 := OwnOf.row HO9.out
      refine ⟨_, rfl, by rw [HW.out]; exact hr9, fun b hb => .inr (OwnOf.lt HO9.out hb).1, grown_own (grown_trans HG8.out (World.grownBy_alloc w8 (.cells #[.int .i64 k] 3) none)) HG9.out hb⟩
end Go.Proofs.Ytefcefclncbimaa
