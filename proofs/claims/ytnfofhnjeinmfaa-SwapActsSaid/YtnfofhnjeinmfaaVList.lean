/- Layer 9: what is done to a device, as plain pages and numbers. Over no program. -/
import Derived.Test.YtnfofhnjeinmfaaTFlat
namespace Go.Proofs.Ytnfofhnjeinmfaa

/-- A device: its pages; plans and counts of Reads (r) and of Writes (w). -/
structure VS where
  L : List (List UInt8)
  pr : Int
  pw : Int
  cr : Int
  cw : Int
def pageZ : List UInt8 := List.replicate 4096 0
def newV (n : Nat) : VS := ⟨List.replicate n pageZ, 0, 0, 0, 0⟩
/-- Is there such a place? -/
def VS.has (s : VS) (i : Int) : Prop := 0 ≤ i ∧ i < s.L.length
instance (s : VS) (i : Int) : Decidable (s.has i) := inferInstanceAs (Decidable (0 ≤ i ∧ i < s.L.length))
/-- A plan behind a call. -/
def decV (p : Int) : Int := if p = 0 then 0 else p - 1
def writeV (s : VS) (i : Int) (bs : List UInt8) : Int × VS :=
  if s.has i ∧ bs.length = 4096 then (if s.pw = 1 then (6, ⟨s.L, s.pr, 0, s.cr, s.cw + 1⟩) else (0, ⟨s.L.set i.toNat bs, s.pr, decV s.pw, s.cr, s.cw + 1⟩)) else (2, s)
def peekV (s : VS) (i : Int) : List UInt8 := if s.has i then s.L.getD i.toNat [] else []
def readV (s : VS) (i : Int) : Int × List UInt8 × VS :=
  if s.has i then (if s.pr = 1 then (6, [], ⟨s.L, 0, s.pw, s.cr + 1, s.cw⟩) else (0, s.L.getD i.toNat [], ⟨s.L, decV s.pr, s.pw, s.cr + 1, s.cw⟩)) else (2, [], s)
def planV (s : VS) (b : Bool) (n : Int) : Int × VS := if n < 0 then (2, s) else if b then (0, ⟨s.L, s.pr, n, s.cr, s.cw⟩) else (0, ⟨s.L, n, s.pw, s.cr, s.cw⟩)

/-- Numbers within their bounds; k: how much was counted at most. -/
structure VS.Ok (s : VS) (k : Int) : Prop where
  len : s.L.length ≤ 256
  page : ∀ p, p ∈ s.L → p.length = 4096
  pr0 : 0 ≤ s.pr
  pr1 : s.pr < 9223372036854775808
  pw0 : 0 ≤ s.pw
  pw1 : s.pw < 9223372036854775808
  cr0 : 0 ≤ s.cr
  cr1 : s.cr ≤ k
  cw0 : 0 ≤ s.cw
  cw1 : s.cw ≤ k
section
variable {s : VS} {k : Int} {i : Int} {bs : List UInt8}
theorem pageZ_length : pageZ.length = 4096 := List.length_replicate
theorem newV_ok (n : Nat) (h : n ≤ 256) : (newV n).Ok 0 :=
  ⟨by show (List.replicate n pageZ).length ≤ 256; rw [List.length_replicate]; exact h, fun p hp => by rw [(List.mem_replicate.1 hp).2]; exact pageZ_length, Int.le_refl _, by show (0 : Int) < _; decide, Int.le_refl _, by show (0 : Int) < _; decide, Int.le_refl _, Int.le_refl _, Int.le_refl _, Int.le_refl _⟩
theorem VS.Ok.up (h : s.Ok k) {k' : Int} (hk : k ≤ k') : s.Ok k' := ⟨h.len, h.page, h.pr0, h.pr1, h.pw0, h.pw1, h.cr0, by have := h.cr1; omega, h.cw0, by have := h.cw1; omega⟩
theorem decV_ok {p : Int} (h0 : 0 ≤ p) (h1 : p < 9223372036854775808) : 0 ≤ decV p ∧ decV p < 9223372036854775808 := by unfold decV; split <;> omega
theorem write_len : (writeV s i bs).2.L.length = s.L.length := by
  unfold writeV
  split
  · split
    · rfl
    · exact List.length_set
  · rfl
theorem read_len : (readV s i).2.2.L = s.L := by
  unfold readV
  split
  · split <;> rfl
  · rfl
theorem plan_len {b : Bool} {n : Int} : (planV s b n).2.L = s.L := by
  unfold planV
  split
  · rfl
  · split <;> rfl
theorem VS.Ok.write (h : s.Ok k) : (writeV s i bs).2.Ok (k + 1) := by
  have h1 := decV_ok h.pw0 h.pw1
  have c1 := h.cr1
  have c2 := h.cw1
  have c3 := h.cw0
  unfold writeV
  split
  · rename_i hs
    split
    · exact ⟨h.len, h.page, h.pr0, h.pr1, by show (0 : Int) ≤ 0; omega, by show (0 : Int) < _; omega, h.cr0, by show s.cr ≤ _; omega, by show 0 ≤ s.cw + 1; omega, by show s.cw + 1 ≤ _; omega⟩
    · exact ⟨by show (s.L.set _ _).length ≤ 256; rw [List.length_set]; exact h.len, fun p hp => (List.mem_or_eq_of_mem_set hp).elim (h.page p) fun e => e ▸ hs.2, h.pr0, h.pr1, h1.1, h1.2, h.cr0, by show s.cr ≤ _; omega, by show 0 ≤ s.cw + 1; omega, by show s.cw + 1 ≤ _; omega⟩
  · exact h.up (by omega)
theorem VS.Ok.read (h : s.Ok k) : (readV s i).2.2.Ok (k + 1) := by
  have h1 := decV_ok h.pr0 h.pr1
  have c1 := h.cr1
  have c2 := h.cw1
  have c3 := h.cr0
  unfold readV
  split
  · split
    · exact ⟨h.len, h.page, by show (0 : Int) ≤ 0; omega, by show (0 : Int) < _; omega, h.pw0, h.pw1, by show 0 ≤ s.cr + 1; omega, by show s.cr + 1 ≤ _; omega, h.cw0, by show s.cw ≤ _; omega⟩
    · exact ⟨h.len, h.page, h1.1, h1.2, h.pw0, h.pw1, by show 0 ≤ s.cr + 1; omega, by show s.cr + 1 ≤ _; omega, h.cw0, by show s.cw ≤ _; omega⟩
  · exact h.up (by omega)
theorem VS.Ok.plan (h : s.Ok k) {b : Bool} {n : Int} (hn : okI n) : (planV s b n).2.Ok k := by
  have := hn.2
  unfold planV
  split
  · exact h
  · split
    · exact ⟨h.len, h.page, h.pr0, h.pr1, by show 0 ≤ n; omega, by show n < _; omega, h.cr0, h.cr1, h.cw0, h.cw1⟩
    · exact ⟨h.len, h.page, by show 0 ≤ n; omega, by show n < _; omega, h.pw0, h.pw1, h.cr0, h.cr1, h.cw0, h.cw1⟩
theorem peek_len (h : s.Ok k) : (peekV s i).length = if s.has i then 4096 else 0 := by
  unfold peekV
  split
  · rename_i hi
    refine h.page _ ?_
    rw [List.getD_eq_getElem?_getD, List.getElem?_eq_getElem (by have := hi.1; have := hi.2; omega)]
    exact List.getElem_mem _
  · rfl
end
end Go.Proofs.Ytnfofhnjeinmfaa
