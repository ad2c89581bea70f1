/- Layer 4's laws: entries that are marked, and memories with one table of each level: plain arithmetic. -/
import Derived.Test.YtomkhdefjfjlnaaWOne
namespace Go.Proofs.Ytomkhdefjfjlnaa
open Go.ChangeShapes Go.WideShapes Go.ChangeAt Go.RowKit Go.Deep
set_option linter.unusedVariables false

theorem nat_or_bit (n j : Nat) : n ||| 2 ^ j = n + if n.testBit j then 0 else 2 ^ j := by
  have hlo : n % 2 ^ j < 2 ^ j := Nat.mod_lt _ (Nat.two_pow_pos j)
  have hn : n = 2 ^ j * (n / 2 ^ j) + n % 2 ^ j := (Nat.div_add_mod n (2 ^ j)).symm
  have hbit : n.testBit j = decide (n / 2 ^ j % 2 = 1) := nat_bit n j
  have hq := Nat.div_add_mod (n / 2 ^ j) 2
  cases hb : n.testBit j with
  | true =>
    rw [if_pos rfl, Nat.add_zero]
    apply Nat.eq_of_testBit_eq
    intro i
    rw [Nat.testBit_or, Nat.testBit_two_pow]
    by_cases h : j = i
    · subst h; rw [hb]; rfl
    · simp [h]
  | false =>
    rw [if_neg (by simp)]
    have h0 : n / 2 ^ j % 2 = 0 := by rw [hb] at hbit; have := of_decide_eq_false hbit.symm; omega
    have e1 : 2 ^ j * (n / 2 ^ j) = 2 ^ (j + 1) * (n / 2 ^ j / 2) := by
      have : n / 2 ^ j = 2 * (n / 2 ^ j / 2) := by omega
      rw [Nat.pow_succ, Nat.mul_assoc, ← this]
    have hn2 : n = 2 ^ (j + 1) * (n / 2 ^ j / 2) + n % 2 ^ j := by rw [← e1]; exact hn
    apply Nat.eq_of_testBit_eq
    intro i
    have hlt : n % 2 ^ j < 2 ^ (j + 1) := by rw [Nat.pow_succ]; omega
    have hlt2 : 2 ^ j * 1 + n % 2 ^ j < 2 ^ (j + 1) := by rw [Nat.pow_succ]; omega
    have e2 : n + 2 ^ j = 2 ^ (j + 1) * (n / 2 ^ j / 2) + (2 ^ j * 1 + n % 2 ^ j) := by omega
    rw [Nat.testBit_or, Nat.testBit_two_pow, e2, Nat.testBit_two_pow_mul_add _ hlt2, hn2, Nat.testBit_two_pow_mul_add _ hlt]
    rw [← hn2]
    by_cases hi : i < j + 1
    · rw [if_pos hi, if_pos hi, Nat.testBit_two_pow_mul_add _ hlo]
      by_cases h : i < j
      · rw [if_pos h]
        have : decide (j = i) = false := by simp; omega
        rw [this, Bool.or_false]
      · obtain rfl : i = j := by omega
        rw [if_neg h]
        have : (n % 2 ^ i).testBit i = false := Nat.testBit_lt_two_pow hlo
        rw [this]
        simp
    · rw [if_neg hi, if_neg hi]
      have : decide (j = i) = false := by simp; omega
      rw [this, Bool.or_false]

theorem or_bit_u64 (x : Int) (j : Nat) (hx : okU x) (hj : j < 63) : bits .or .u64 x ((2 ^ j : Nat) : Int) = x + if (x / ((2 ^ j : Nat) : Int)) % 2 = 1 then 0 else ((2 ^ j : Nat) : Int) := by
  obtain ⟨n, rfl⟩ := Int.eq_ofNat_of_zero_le hx.1
  have h2 := hx.2
  have hp : 2 ^ j < 2 ^ 63 := Nat.pow_lt_pow_right (by decide) hj
  rw [bits_or_u64_nat n (2 ^ j) (by omega) (by omega), nat_or_bit, nat_bit]
  have e : ((n : Int) / ((2 ^ j : Nat) : Int) % 2 = 1) ↔ n / 2 ^ j % 2 = 1 := by
    constructor
    · intro h; have : ((n / 2 ^ j % 2 : Nat) : Int) = 1 := by push_cast; exact_mod_cast h
      omega
    · intro h; have : ((n / 2 ^ j % 2 : Nat) : Int) = 1 := by omega
      exact_mod_cast this
  by_cases h : n / 2 ^ j % 2 = 1
  · rw [if_pos (by simpa using h), if_pos (e.2 h)]; simp
  · rw [if_neg (by simpa using h), if_neg (fun q => h (e.1 q))]; simp

theorem or_64 (x : Int) (hx : okU x) : bits .or .u64 x 64 = x + if x / 64 % 2 = 1 then 0 else 64 := or_bit_u64 x 6 hx (by decide)
theorem or_128 (x : Int) (hx : okU x) : bits .or .u64 x 128 = x + if x / 128 % 2 = 1 then 0 else 128 := or_bit_u64 x 7 hx (by decide)

/-- An entry's flags, A set, and D to write. -/
def markF (f a : Int) : Int := (f + if f / 64 % 2 = 1 then 0 else 64) + if a = 2 then (if f / 128 % 2 = 1 then 0 else 128) else 0

theorem mark_flag (x a : Int) (hx : okU x) : flagOf (markOf x a) = markF (flagOf x) a := by
  unfold markOf markF flagOf
  have h1 := or_64 x hx
  have h2 := or_128 _ (okU_or x 64 hx ⟨by decide, by decide⟩)
  by_cases ha : a = 2
  · rw [if_pos ha, if_pos ha, h2, h1]
    repeat' split
    all_goals omega
  · rw [if_neg ha, if_neg ha, h1]
    repeat' split
    all_goals omega
theorem mark_ppn (x a : Int) (hx : okU x) : ppnOf (markOf x a) = ppnOf x := by
  unfold markOf ppnOf
  have h1 := or_64 x hx
  have h2 := or_128 _ (okU_or x 64 hx ⟨by decide, by decide⟩)
  by_cases ha : a = 2
  · rw [if_pos ha, h2, h1]
    repeat' split
    all_goals omega
  · rw [if_neg ha, h1]
    repeat' split
    all_goals omega

/-- A number that an entry is: no other bits. -/
def CleanI (x : Int) : Prop := x = encOf (flagOf x) (ppnOf x)
theorem clean_enc (F P : Int) : CleanI (encOf F P) := by unfold CleanI encOf flagOf ppnOf; omega
theorem clean_zero : CleanI 0 := by unfold CleanI encOf flagOf ppnOf; omega
theorem clean_mark (x a : Int) (hx : okU x) (h : CleanI x) : CleanI (markOf x a) := by
  unfold CleanI at *
  have h1 := or_64 x hx
  have h2 := or_128 _ (okU_or x 64 hx ⟨by decide, by decide⟩)
  unfold encOf flagOf ppnOf at *
  unfold markOf
  by_cases ha : a = 2
  · rw [if_pos ha, h2, h1]
    repeat' split
    all_goals omega
  · rw [if_neg ha, h1]
    repeat' split
    all_goals omega
/-- All words of a memory are numbers that entries are. -/
def Clean (n : Nat) (L : List UInt8) : Prop := L.length = n * 4096 ∧ ∀ g j, CleanI (wordI n L g j)
theorem Clean.set {n : Nat} {L : List UInt8} {f i v : Int} (h : Clean n L) (hv : okU v) (hc : CleanI v) : Clean n (setL n L f i v) := by
  refine ⟨setL_length n L f i v h.1, fun g j => ?_⟩
  by_cases hr : (0 ≤ f ∧ f < n) ∧ (0 ≤ i ∧ i < 512)
  · rw [wordI_set h.1 hr.1 hr.2 hv]
    split
    · exact hc
    · exact h.2 g j
  · have hs : setL n L f i v = L := by unfold setL; rw [if_neg hr]
    rw [hs]; exact h.2 g j
theorem clean_noL : Clean 8 noL := ⟨noL_length, fun g j => by rw [wordI_noL]; exact clean_zero⟩
theorem clean_made : ∀ (Ws : List WordV) (L : List UInt8), Clean 8 L → Clean 8 (madeL L Ws)
  | [], _, h => h
  | A :: Ws, L, h => clean_made Ws _ (h.set (okU_encOf _ _) (clean_enc _ _))
theorem Clean.walk {n : Nat} {L : List UInt8} (h : Clean n L) (r va a : Int) (u : Bool) : Clean n (walkL n L r va a u) := by
  unfold walkL
  split
  · exact h.set (okU_mark _ _ (wordI_ok _ _ _ _)) (clean_mark _ _ (wordI_ok _ _ _ _) (h.2 _ _))
  · exact h

/-- The tables of pages 0 to 511 are frames 0, 1 and 2. -/
def Tabs (L : List UInt8) : Prop := wordI 8 L 0 0 = encOf 1 1 ∧ wordI 8 L 1 0 = encOf 1 2
theorem Tabs.set {L : List UInt8} {i v : Int} (h : Tabs L) (hl : L.length = 8 * 4096) (hi : 0 ≤ i ∧ i < 512) (hv : okU v) : Tabs (setL 8 L 2 i v) := by
  refine ⟨?_, ?_⟩
  · rw [wordI_set hl (by decide) hi hv, if_neg (by omega)]; exact h.1
  · rw [wordI_set hl (by decide) hi hv, if_neg (by omega)]; exact h.2
theorem Tabs.place {L : List UInt8} (h : Tabs L) (v : Int) (hv : 0 ≤ v ∧ v < 512) : placeOf 8 L 0 v = some 2 := by
  have i2 : indexOf v 2 = 0 := by show v / 262144 % 512 = 0; omega
  have i1 : indexOf v 1 = 0 := by show v / 512 % 512 = 0; omega
  have n2 : nextOf 8 L v 0 2 = some 1 := by
    unfold nextOf
    rw [i2, h.1]
    decide
  have n1 : nextOf 8 L v 1 1 = some 2 := by
    unfold nextOf
    rw [i1, h.2]
    decide
  unfold placeOf
  rw [if_pos (by omega)]
  show (nextOf 8 L v 0 2).bind (downOf 8 L v 1) = some 2
  rw [n2]
  show (nextOf 8 L v 1 1).bind (downOf 8 L v 0) = some 2
  rw [n1]
  rfl

/-- What comes of a walk there. -/
def pageWay (X a : Int) (u : Bool) : Int := if ¬ (kindOf (flagOf X) = 2 ∧ 0 ≤ ppnOf X ∧ ppnOf X < 8) then 1 else if mayOf (flagOf X) a u = false then 3 else 0
section
variable {L : List UInt8} {v t a : Int} {u : Bool}
theorem at_vpn (hv : 0 ≤ v ∧ v < 512) (ht : 0 ≤ t ∧ t < 4096) : vpnOf (v * 4096 + t) = v ∧ byteOf (v * 4096 + t) = t ∧ canonOf (v * 4096 + t) = true := by
  refine ⟨?_, ?_, ?_⟩
  · unfold vpnOf; omega
  · unfold byteOf; omega
  · unfold canonOf; simp; omega
theorem Tabs.tab (h : Tabs L) (hv : 0 ≤ v ∧ v < 512) (ht : 0 ≤ t ∧ t < 4096) : tabOf 8 L 0 (v * 4096 + t) = 2 := by
  unfold tabOf; rw [(at_vpn hv ht).1, h.place v hv]; rfl
theorem Tabs.ent (h : Tabs L) (hv : 0 ≤ v ∧ v < 512) (ht : 0 ≤ t ∧ t < 4096) : entOf 8 L 0 (v * 4096 + t) = wordI 8 L 2 v := by
  unfold entOf; rw [h.tab hv ht, (at_vpn hv ht).1]
  have : indexOf v 0 = v := by show v % 512 = v; omega
  rw [this]
theorem Tabs.way (h : Tabs L) (hv : 0 ≤ v ∧ v < 512) (ht : 0 ≤ t ∧ t < 4096) : wayOf 8 L 0 (v * 4096 + t) a u = pageWay (wordI 8 L 2 v) a u := by
  unfold wayOf pageWay
  rw [h.ent hv ht, (at_vpn hv ht).1, (at_vpn hv ht).2.2, h.place v hv, if_neg (by simp), if_neg (by simp)]
  rfl
theorem Tabs.walkL (h : Tabs L) (hv : 0 ≤ v ∧ v < 512) (ht : 0 ≤ t ∧ t < 4096) : walkL 8 L 0 (v * 4096 + t) a u = if pageWay (wordI 8 L 2 v) a u = 0 then setL 8 L 2 v (markOf (wordI 8 L 2 v) a) else L := by
  unfold Go.Proofs.Ytomkhdefjfjlnaa.walkL
  rw [h.way hv ht, h.ent hv ht, h.tab hv ht, (at_vpn hv ht).1]
  have : indexOf v 0 = v := by show v % 512 = v; omega
  rw [this]
theorem Tabs.walkV (h : Tabs L) (hv : 0 ≤ v ∧ v < 512) (ht : 0 ≤ t ∧ t < 4096) : walkV 8 L 0 (v * 4096 + t) a u = if pageWay (wordI 8 L 2 v) a u = 0 then .tuple #[.int .i64 0, .int .i64 (ppnOf (wordI 8 L 2 v)), .int .i64 t] else .tuple #[.int .i64 (pageWay (wordI 8 L 2 v) a u), .int .i64 0, .int .i64 0] := by
  unfold Go.Proofs.Ytomkhdefjfjlnaa.walkV
  rw [h.way hv ht, h.ent hv ht, (at_vpn hv ht).2.1]
theorem Tabs.walk (h : Tabs L) (hl : L.length = 8 * 4096) (hv : 0 ≤ v ∧ v < 512) (ht : 0 ≤ t ∧ t < 4096) : Tabs (Go.Proofs.Ytomkhdefjfjlnaa.walkL 8 L 0 (v * 4096 + t) a u) := by
  rw [h.walkL hv ht]
  split
  · exact h.set hl hv (okU_mark _ _ (wordI_ok _ _ _ _))
  · exact h
end

/-- .. of the memory that 'one' makes. -/
theorem one_words (i fl fr : Int) (hi : 0 ≤ i ∧ i < 512) : Tabs (madeL noL (oneW i fl fr)) ∧ wordI 8 (madeL noL (oneW i fl fr)) 2 i = encOf fl fr ∧ (∀ j, j ≠ i → wordI 8 (madeL noL (oneW i fl fr)) 2 j = 0) := by
  show Tabs (setL 8 (setL 8 (setL 8 noL 0 0 (encOf 1 1)) 1 0 (encOf 1 2)) 2 i (encOf fl fr)) ∧ wordI 8 (setL 8 (setL 8 (setL 8 noL 0 0 (encOf 1 1)) 1 0 (encOf 1 2)) 2 i (encOf fl fr)) 2 i = encOf fl fr ∧ (∀ j, j ≠ i → wordI 8 (setL 8 (setL 8 (setL 8 noL 0 0 (encOf 1 1)) 1 0 (encOf 1 2)) 2 i (encOf fl fr)) 2 j = 0)
  have l0 := noL_length
  have l1 := setL_length 8 noL 0 0 (encOf 1 1) l0
  have l2 := setL_length 8 (setL 8 noL 0 0 (encOf 1 1)) 1 0 (encOf 1 2) l1
  have w1 : ∀ g j, wordI 8 (setL 8 noL 0 0 (encOf 1 1)) g j = if g = 0 ∧ j = 0 then encOf 1 1 else 0 := fun g j => by rw [wordI_set l0 (by decide) (by decide) (okU_encOf _ _), wordI_noL]
  have w2 : ∀ g j, wordI 8 (setL 8 (setL 8 noL 0 0 (encOf 1 1)) 1 0 (encOf 1 2)) g j = if g = 1 ∧ j = 0 then encOf 1 2 else if g = 0 ∧ j = 0 then encOf 1 1 else 0 := fun g j => by rw [wordI_set l1 (by decide) (by decide) (okU_encOf _ _), w1]
  have w3 : ∀ g j, wordI 8 (setL 8 (setL 8 (setL 8 noL 0 0 (encOf 1 1)) 1 0 (encOf 1 2)) 2 i (encOf fl fr)) g j = if g = 2 ∧ j = i then encOf fl fr else if g = 1 ∧ j = 0 then encOf 1 2 else if g = 0 ∧ j = 0 then encOf 1 1 else 0 := fun g j => by rw [wordI_set l2 (by decide) hi (okU_encOf _ _), w2]
  refine ⟨⟨?_, ?_⟩, ?_, fun j hj => ?_⟩
  · rw [w3]; simp
  · rw [w3]; simp
  · rw [w3]; simp
  · rw [w3]; simp [hj]
end Go.Proofs.Ytomkhdefjfjlnaa
