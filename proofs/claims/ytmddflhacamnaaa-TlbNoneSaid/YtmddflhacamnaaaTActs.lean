/- TlbActs, walked out of what package tlb says, beside the document's own table: it answers true, and nothing that was there has turned. -/
import Derived.Test.YtmddflhacamnaaaTEldest
import Derived.Deep.RegionHeld3
import Derived.Deep.CutBlock
import Derived.Deep.DeepCutAuto
namespace Go.Proofs.Ytmddflhacamnaaa
open Go.ChangeShapes Go.WideShapes Go.ChangeAt Go.RowKit Go.Deep
set_option linter.unusedVariables false
set_option linter.unusedSimpArgs false

/-- Something that is done to a table. -/
structure TActV where
  k : Int
  a : Int
  v : Int
  fl : Int
  pp : Int
def tactCells (A : TActV) : List Value := [.int .i64 A.k, .int .i64 A.a, .int .i64 A.v, .int .i64 A.fl, .int .i64 A.pp]
def TActV.y (A : TActV) : KeptV := ⟨A.a, A.v, A.fl, A.pp⟩
structure TActsAre (w : World) (s : Option Addr) (l : Nat) (As : List TActV) : Prop where
  len : As.length = l
  cells : l = 0 ∨ ∃ g o, s = some ⟨g, o, none⟩ ∧ ∀ (i : Nat) A, As[i]? = some A → ∀ (j : Nat) u, (tactCells A)[j]? = some u → w.cell? ⟨g, o + i * 5 + j, none⟩ = some u
  ok : ∀ A, A ∈ As → okI A.a ∧ okI A.v
/-- One of them, by its cells, in a later world. -/
theorem TActsAre.at {w wr : World} {s : Option Addr} {l : Nat} {As : List TActV} (h : TActsAre w s l As) (g : w.grownBy wr none) {j : Nat} {A : TActV} (hA : As[j]? = some A) :
    ∃ b o, s = some ⟨b, o, none⟩ ∧ wr.cell? ⟨b, o + j * 5, none⟩ = some (.int .i64 A.k) ∧ wr.cell? ⟨b, o + j * 5 + 1, none⟩ = some (.int .i64 A.a) ∧ wr.cell? ⟨b, o + j * 5 + 2, none⟩ = some (.int .i64 A.v) ∧ wr.cell? ⟨b, o + j * 5 + 3, none⟩ = some (.int .i64 A.fl) ∧ wr.cell? ⟨b, o + j * 5 + 4, none⟩ = some (.int .i64 A.pp) := by
  have hj := (List.getElem?_eq_some_iff.1 hA).1
  rcases h.cells with h0 | ⟨b, o, hs, hc⟩
  · have := h.len; omega
  · have key : ∀ q u, (tactCells A)[q]? = some u → wr.cell? ⟨b, o + j * 5 + q, none⟩ = some u := fun q u hq => by
      have h1 := hc j A hA q u hq
      exact (World.cell?_of_block (a := ⟨b, o + j * 5 + q, none⟩) (g.block b (World.block_lt_of_cell? w _ h1) (by simp))).trans h1
    exact ⟨b, o, hs, key 0 _ rfl, key 1 _ rfl, key 2 _ rfl, key 3 _ rfl, key 4 _ rfl⟩

/-- One of them, boxed. -/
def TActB (w : World) (y : Nat) (A : TActV) : Prop := w.heap[y]? = some (.cells #[.int .i64 A.k, .int .i64 A.a, .int .i64 A.v, .int .i64 A.fl, .int .i64 A.pp] 33 (0, 0))
theorem TActB.at {w : World} {y : Nat} {A : TActV} (h : TActB w y A) : w.cell? ⟨y, 0, none⟩ = some (.int .i64 A.k) ∧ w.cell? ⟨y, 1, none⟩ = some (.int .i64 A.a) ∧ w.cell? ⟨y, 2, none⟩ = some (.int .i64 A.v) ∧ w.cell? ⟨y, 3, none⟩ = some (.int .i64 A.fl) ∧ w.cell? ⟨y, 4, none⟩ = some (.int .i64 A.pp) :=
  ⟨by rw [cell_of_row _ _ _ _ _ _ h]; rfl, by rw [cell_of_row _ _ _ _ _ _ h]; rfl, by rw [cell_of_row _ _ _ _ _ _ h]; rfl, by rw [cell_of_row _ _ _ _ _ _ h]; rfl, by rw [cell_of_row _ _ _ _ _ _ h]; rfl⟩

/-- Both tables. -/
structure AI (T : World → Nat → Int → List KeptV → List Nat → Prop) (w wx : World) (p r : Nat) (sz : Int) (xs ys : List KeptV) (O : List Nat) (v : Value) : Prop where
  tt : T wx p sz xs O
  rt : RT wx r sz ys v
  ot : ∀ b, b ∈ O → w.heap.size ≤ b
  og : ∀ b, b ∈ RTO r v → w.heap.size ≤ b
  ap : ∀ b, b ∈ O → b ∉ RTO r v
  grown : w.grownBy wx none
section
variable {T : World → Nat → Int → List KeptV → List Nat → Prop} {w wx w2 : World} {p r : Nat} {sz : Int} {xs ys zs : List KeptV} {O : List Nat} {v : Value} {A : TActV} {Y : Nat}
theorem AI.grow (H : TlbOk T) (h : AI T w wx p r sz xs ys O v) (g : wx.grownBy w2 none) : AI T w w2 p r sz xs ys O v := ⟨H.grow h.tt g, h.rt.grow g, h.ot, h.og, h.ap, grown_trans h.grown g⟩
theorem AI.left (H : TlbOk T) (h : AI T w wx p r sz xs ys O v) (k : TLeft T wx w2 p sz O zs) : ∃ O', AI T w w2 p r sz zs ys O' v ∧ Turn O wx w2 ∧ ∀ b, b ∈ O' → b ∈ O ∨ wx.heap.size ≤ b := by
  obtain ⟨O', h2, g2, o2⟩ := k
  refine ⟨O', ⟨h2, h.rt.turn g2 (fun b hb hm => h.ap b hm hb), fun b hb => ?_, h.og, fun b hb hm => ?_, ((Turn.grown h.grown).trans' g2).noGrown h.ot⟩, g2, o2⟩
  · rcases o2 b hb with h3 | h3
    · exact h.ot b h3
    · have := h.grown.size; omega
  · rcases o2 b hb with h3 | h3
    · exact h.ap b h3 hm
    · have := h.rt.lt b hm; omega
theorem AI.right (H : TlbOk T) (h : AI T w wx p r sz xs ys O v) (k : Left wx w2 r sz zs) : ∃ v', AI T w w2 p r sz xs zs O v' ∧ Turn [r] wx w2 ∧ ∀ b, b ∈ RTO r v' → b = r ∨ wx.heap.size ≤ b := by
  obtain ⟨v', h2, g2, o2⟩ := k
  have hr : w.heap.size ≤ r := h.og r (by simp [RTO])
  refine ⟨v', ⟨H.turn h.tt g2 (fun b hb hm => h.ap b hb (by rw [List.mem_singleton.1 hm]; simp [RTO])), h2, h.ot, fun b hb => ?_, fun b hb hm => ?_, ((Turn.grown h.grown).trans' g2).noGrown (fun b hb => by rw [List.mem_singleton.1 hb]; exact hr)⟩, g2, o2⟩
  · rcases o2 b hb with rfl | h3
    · exact hr
    · have := h.grown.size; omega
  · rcases o2 b hm with rfl | h3
    · exact h.ap b hb (by simp [RTO])
    · have := H.lt h.tt b hb; omega

/-- .. and the round's own boxes. -/
structure AR (T : World → Nat → Int → List KeptV → List Nat → Prop) (w wx : World) (p r : Nat) (sz : Int) (xs ys : List KeptV) (O : List Nat) (v : Value) (Y : Nat) (A : TActV) : Prop where
  i : AI T w wx p r sz xs ys O v
  yb : TActB wx Y A
  zb : TwoB wx (Y + 1) 34 (.int .i64 A.a) (.int .i64 A.v)
  yo : Y ∉ O ∧ Y + 1 ∉ O
  yr : Y ∉ RTO r v ∧ Y + 1 ∉ RTO r v
theorem AR.ylt (h : AR T w wx p r sz xs ys O v Y A) : Y < wx.heap.size ∧ Y + 1 < wx.heap.size := ⟨(Array.getElem?_eq_some_iff.1 h.yb).1, h.zb.lt⟩
theorem AR.grow (H : TlbOk T) (h : AR T w wx p r sz xs ys O v Y A) (g : wx.grownBy w2 none) : AR T w w2 p r sz xs ys O v Y A := ⟨h.i.grow H g, (g.block _ h.ylt.1 (by simp)).trans h.yb, h.zb.grow g, h.yo, h.yr⟩
theorem AR.left (H : TlbOk T) (h : AR T w wx p r sz xs ys O v Y A) (k : TLeft T wx w2 p sz O zs) : ∃ O', AR T w w2 p r sz zs ys O' v Y A := by
  obtain ⟨O', h2, g2, o2⟩ := h.i.left H k
  have hl := h.ylt
  exact ⟨O', h2, (g2.block _ hl.1 h.yo.1).trans h.yb, h.zb.turn g2 h.yo.2, ⟨fun hm => by rcases o2 _ hm with h3 | h3; exact h.yo.1 h3; omega, fun hm => by rcases o2 _ hm with h3 | h3; exact h.yo.2 h3; omega⟩, h.yr⟩
theorem AR.right (H : TlbOk T) (h : AR T w wx p r sz xs ys O v Y A) (k : Left wx w2 r sz zs) : ∃ v', AR T w w2 p r sz xs zs O v' Y A := by
  obtain ⟨v', h2, g2, o2⟩ := h.i.right H k
  have hl := h.ylt
  have hn : Y ≠ r ∧ Y + 1 ≠ r := ⟨fun e => h.yr.1 (by rw [e]; simp [RTO]), fun e => h.yr.2 (by rw [e]; simp [RTO])⟩
  exact ⟨v', h2, (g2.block _ hl.1 (by simpa using hn.1)).trans h.yb, h.zb.turn g2 (by simpa using hn.2), h.yo, ⟨fun hm => by rcases o2 _ hm with h3 | h3; exact hn.1 h3; omega, fun hm => by rcases o2 _ hm with h3 | h3; exact hn.2 h3; omega⟩⟩
/-- All that a region of the round reads. -/
def Held (Y : Nat) (A : TActV) (w' : World) : Prop := (w'.cell? ⟨Y, 1, none⟩ = some (.int .i64 A.a) ∧ w'.cell? ⟨Y, 2, none⟩ = some (.int .i64 A.v)) ∧ (w'.cell? ⟨Y + 1, 0, none⟩ = some (.int .i64 A.a) ∧ w'.cell? ⟨Y + 1, 1, none⟩ = some (.int .i64 A.v))
theorem AR.held (h : AR T w wx p r sz xs ys O v Y A) : (wx.cell? ⟨Y, 1, none⟩ = some (.int .i64 A.a) ∧ wx.cell? ⟨Y, 2, none⟩ = some (.int .i64 A.v)) ∧ (wx.cell? ⟨Y + 1, 0, none⟩ = some (.int .i64 A.a) ∧ wx.cell? ⟨Y + 1, 1, none⟩ = some (.int .i64 A.v)) := ⟨⟨h.yb.at.2.1, h.yb.at.2.2.1⟩, h.zb.at⟩
theorem AR.new (H : TlbOk T) (h : AI T w wx p r sz xs ys O v) (A : TActV) : AR T w ((wx.alloc (.cells #[.int .i64 A.k, .int .i64 A.a, .int .i64 A.v, .int .i64 A.fl, .int .i64 A.pp] 33)).alloc (.cells #[.int .i64 A.a, .int .i64 A.v] 34)) p r sz xs ys O v wx.heap.size A := by
  have g1 := World.grownBy_alloc wx (.cells #[.int .i64 A.k, .int .i64 A.a, .int .i64 A.v, .int .i64 A.fl, .int .i64 A.pp] 33) none
  have g2 := World.grownBy_alloc (wx.alloc (.cells #[.int .i64 A.k, .int .i64 A.a, .int .i64 A.v, .int .i64 A.fl, .int .i64 A.pp] 33)) (.cells #[.int .i64 A.a, .int .i64 A.v] 34) none
  have hO := fun b hb => H.lt h.tt b hb
  have hR := fun b hb => h.rt.lt b hb
  refine ⟨h.grow H (grown_trans g1 g2), (g2.block _ (by simp) (by simp)).trans (heap_alloc_new wx _), ?_, ⟨fun hm => by have := hO _ hm; omega, fun hm => by have := hO _ hm; omega⟩, ⟨fun hm => by have := hR _ hm; omega, fun hm => by have := hR _ hm; omega⟩⟩
  have := TwoB.new (wx.alloc (.cells #[.int .i64 A.k, .int .i64 A.a, .int .i64 A.v, .int .i64 A.fl, .int .i64 A.pp] 33)) 34 (.int .i64 A.a) (.int .i64 A.v)
  rwa [World.size_alloc] at this
end

theorem findV_form (xs : List KeptV) (a v : Int) : ∃ f g b, findV xs a v = .tuple #[.agg #[.int .i64 f, .int .i64 g], .bool b] := by
  unfold findV
  split
  · exact ⟨_, _, _, rfl⟩
  · exact ⟨_, _, _, rfl⟩
theorem neq_key (w : World) (a b : Int) : (binOp .neq 34 (.agg #[.int .i64 a, .int .i64 b]) (.agg #[.int .i64 a, .int .i64 b])).run Try.prog w = .ok (.bool false) w := by
  go_simp
theorem eql_nil_t (w : World) : (binOp .eql 23 (.pointer none) (.pointer none)).run Try.prog w = .ok (.bool true) w := by
  have h1 : ∀ d : Nat, (Op.equalIn (d + 1) 23 (.pointer none) (.pointer none)).run Try.prog w = .ok true w := fun d => by
    simp [Op.equalIn, run_underlying Try.underlying23]
  simp only [binOp]
  simp [Op.equal, Op.maxDepth, h1 9999]
theorem eql_nil_r (w : World) : (binOp .eql 25 (.pointer none) (.pointer none)).run Try.prog w = .ok (.bool true) w := by
  have h1 : ∀ d : Nat, (Op.equalIn (d + 1) 25 (.pointer none) (.pointer none)).run Try.prog w = .ok true w := fun d => by
    simp [Op.equalIn, run_underlying Try.underlying25]
  simp only [binOp]
  simp [Op.equal, Op.maxDepth, h1 9999]
theorem eql_some_r (w : World) (a : Addr) : (binOp .eql 25 (.pointer (some a)) (.pointer none)).run Try.prog w = .ok (.bool false) w := by
  have h1 : ∀ d : Nat, (Op.equalIn (d + 1) 25 (.pointer (some a)) (.pointer none)).run Try.prog w = .ok false w := fun d => by
    simp [Op.equalIn, run_underlying Try.underlying25]
  simp only [binOp]
  simp [Op.equal, Op.maxDepth, h1 9999]

set_option maxRecDepth 100000 in
set_option maxHeartbeats 4000000 in
theorem tacts_none {T : World → Nat → Int → List KeptV → List Nat → Prop} (H : TlbOk T) (w : World) (s : Option Addr) (l c : Nat) (size : Int) (hs : ¬ (0 ≤ size ∧ size ≤ 1024)) :
    Calls Try.prog 3 #[.int .i64 size, .slice s l c] w fun e w' => e = .returned (.bool true) ∧ w.grownBy w' none := by
  have HLv := Lib.hid (lives5 H)
  have HN := Lib.hid (H.newNo w size hs)
  have HR := Lib.hid (fun wx => ref_new_no wx size hs)
  clear H hs
  have hq1 := eql_nil_t
  have hq2 := eql_nil_r
  go_enter Try.func3, Try.ntmps3
  go_wp2_with fail
  refine HN.out.mono ?_
  rintro e w1 ⟨rfl, g1⟩
  go_wp2_with fail
  refine (HR.out _).mono ?_
  rintro e w2 ⟨rfl, rfl⟩
  have HG := Lib.hid g1
  clear g1
  go_wp2_with fail
  refine (HLv.out _).mono ?_
  rintro e w6 ⟨rfl, g6⟩
  have HG8 := Lib.hid (grown_trans HG.out g6)
  clear g6
  go_wp2_with fail
  go_ret
  exact ⟨rfl, HG8.out⟩

/-- Both tables, made. -/
theorem AI.start {T : World → Nat → Int → List KeptV → List Nat → Prop} (H : TlbOk T) {w w1 w2 : World} {p : Nat} {sz : Int} {O : List Nat} (h1 : T w1 p sz [] O) (g1 : w.grownBy w1 none) (o1 : ∀ b, b ∈ O → w.heap.size ≤ b) (h2 : RT w2 w1.heap.size sz [] (.slice none 0 0)) (g2 : w1.grownBy w2 none) :
    AI T w w2 p w1.heap.size sz [] [] O (.slice none 0 0) := by
  have hs := g1.size
  refine ⟨H.grow h1 g2, h2, o1, fun b hb => ?_, fun b hb hm => ?_, grown_trans g1 g2⟩
  · simp [RTO, Value.ownBlock] at hb; omega
  · have := H.lt h1 b hb; simp [RTO, Value.ownBlock] at hm; omega

set_option maxRecDepth 100000 in
set_option maxHeartbeats 4000000 in
theorem tacts_long {T : World → Nat → Int → List KeptV → List Nat → Prop} (H : TlbOk T) (w : World) (s : Option Addr) (l c : Nat) (size : Int) (h0 : 0 ≤ size) (h1 : size ≤ 1024) (hl : 200 < l) :
    Calls Try.prog 3 #[.int .i64 size, .slice s l c] w fun e w' => e = .returned (.bool true) ∧ w.grownBy w' none := by
  have HLv := Lib.hid (lives5 H)
  have HN := Lib.hid (H.new w size h0 h1)
  have HR := Lib.hid (fun wx => ref_new_ok wx size h0 h1)
  have d0 : decide ((l : Int) > 200) = true := by simp; omega
  clear H h0 h1 hl
  have hq1 := eql_ptr_nil
  have hq2 := eql_some_r
  go_enter Try.func3, Try.ntmps3
  go_wp2_with fail
  refine HN.out.mono ?_
  rintro e w1 ⟨p, O, rfl, -, g1, -⟩
  go_wp2_with fail
  refine (HR.out _).mono ?_
  rintro e w2 ⟨rfl, -, g2⟩
  have HG := Lib.hid (grown_trans g1 g2)
  clear g1 g2
  go_wp2_with fail
  refine (HLv.out _).mono ?_
  rintro e w6 ⟨rfl, g6⟩
  have HG8 := Lib.hid (grown_trans HG.out g6)
  clear g6
  go_wp2_with fail
  go_ret
  exact ⟨rfl, HG8.out⟩


set_option maxRecDepth 100000 in
set_option maxHeartbeats 16000000 in
theorem tacts_walk {T : World → Nat → Int → List KeptV → List Nat → Prop} (H : TlbOk T) (w : World) (size : Int) (s : Option Addr) (l c : Nat) (As : List TActV) (hA : TActsAre w s l As) :
    Calls Try.prog 3 #[.int .i64 size, .slice s l c] w fun e w' => e = .returned (.bool true) ∧ w.grownBy w' none := by
  by_cases hs : 0 ≤ size ∧ size ≤ 1024
  · by_cases hl : 200 < l
    · exact tacts_long H w s l c size hs.1 hs.2 hl
    · have HLv := Lib.hid (lives5 H)
      have HN := Lib.hid (H.new w size hs.1 hs.2)
      have HR := Lib.hid (fun wx => ref_new_ok wx size hs.1 hs.2)
      have d0 : decide ((l : Int) > 200) = false := by simp; omega
      have hl3 : l ≤ 200 := by omega
      have HA := Lib.hid hA
      have HT := Lib.hid H
      clear H hs hl hA
      have hq1 := eql_ptr_nil
      have hq2 := eql_some_r
      go_enter Try.func3, Try.ntmps3
      go_wp2_with fail
      refine HN.out.mono ?_
      rintro e w1 ⟨p, O, rfl, h1, g1, o1⟩
      have H1 := Lib.hid h1
      have G1 := Lib.hid g1
      have O1 := Lib.hid o1
      clear h1 g1 o1
      go_wp2_with fail
      refine (HR.out _).mono ?_
      rintro e w2 ⟨rfl, h2, g2⟩
      have HI := Lib.hid (AI.start HT.out H1.out G1.out O1.out h2 g2)
      clear h2 g2 H1 G1 O1 HN HR
      generalize w1.heap.size = r at *
      go_wp2_with fail
      clear hq1 hq2
      go_loopg [36] l (fun g i wr => ∃ (j : Nat) (xs : List KeptV) (O' : List Nat) (v : Value), g = l - j ∧ j ≤ l ∧ i = .int .i64 j ∧ Hid (AI T w wr p r size xs xs O' v))
      case atStart => exact ⟨0, [], O, _, by omega, by omega, rfl, HI⟩
      case round =>
        obtain ⟨j, xs, O', v, rfl, hj, rfl, HIr⟩ := hrel
        by_cases hlt : j < l
        · obtain ⟨A, hAj⟩ : ∃ A, As[j]? = some A := ⟨_, List.getElem?_eq_getElem (by rw [HA.out.len]; exact hlt)⟩
          obtain ⟨gb, o, rfl, c0, c1, c2, c3, c4⟩ := HA.out.at HIr.out.grown hAj
          have HX := Lib.hid (HA.out.ok A (List.mem_of_getElem? hAj))
          have HAR := Lib.hid (AR.new HT.out HIr.out A)
          obtain ⟨b0, b1, b2, b3, b4⟩ := (show TActB (wr.alloc (.cells #[.int .i64 A.k, .int .i64 A.a, .int .i64 A.v, .int .i64 A.fl, .int .i64 A.pp] 33)) wr.heap.size A from heap_alloc_new wr _).at
          clear hAj
          go_upto_block 2 with fail
          clear c0 c1 c2 c3 c4 b0 b1 b2 b3 b4
          generalize (wr.alloc (.cells #[.int .i64 A.k, .int .i64 A.a, .int .i64 A.v, .int .i64 A.fl, .int .i64 A.pp] 33)).alloc (.cells #[.int .i64 A.a, .int .i64 A.v] 34) = wA at *
          generalize wr.heap.size = Y at *
          go_cut [9] from 44 to 86 (fun ok wx => ok = .bool true ∧ ∃ (xs' : List KeptV) (O2 : List Nat) (v2 : Value), Hid (AR T w wx p r size xs' xs' O2 v2 Y A))
          case first =>
            by_cases hk0 : A.k = 0
            · have e0 : (A.k == 0) = true := by simp [hk0]
              clear hk0
              obtain ⟨b0, b1, b2, b3, b4⟩ := HAR.out.yb.at
              go_wp2_with fail
              refine (HT.out.put HAR.out.i.tt A.y HX.out).mono ?_
              rintro e w5 ⟨rfl, h5⟩
              obtain ⟨O5, h5⟩ := HAR.out.left HT.out h5
              have HAR5 := Lib.hid h5
              obtain ⟨d0, d1, d2, d3, d4⟩ := HAR5.out.yb.at
              obtain ⟨z0, z1⟩ := HAR5.out.zb.at
              clear h5 b0 b1 b2 b3 b4
              go_wp2_with fail
              refine (ref_put_ok HAR5.out.i.rt A.y).mono ?_
              rintro e w6 ⟨rfl, h6⟩
              obtain ⟨v6, h6⟩ := HAR5.out.right HT.out h6
              have HAR6 := Lib.hid h6
              clear h6 d0 d1 d2 d3 d4 z0 z1
              go_wp2
              go_meet
              case rel => exact ⟨rfl, _, _, _, HAR6⟩
            · have e0 : (A.k == 0) = false := by simp [hk0]
              clear hk0
              by_cases hk1 : A.k = 1
              · have e1 : (A.k == 1) = true := by simp [hk1]
                clear hk1
                have HAD := Lib.hid (show AR T w wA.drew p r size xs xs O' v Y A from HAR.out.grow HT.out ⟨rfl, rfl, rfl, Nat.le_refl _, fun _ _ _ => rfl⟩)
                have hkd := HAD.out.held
                obtain ⟨dv, hdv⟩ : ∃ dv, decide ((dropK (sameK A.a A.v) xs).length < xs.length) = dv := ⟨_, rfl⟩
                have HDV := Lib.hid hdv
                clear hdv
                go_wp2_with fail
                go_region_held3 (fun w' => (w'.cell? ⟨Y, 1, none⟩ = some (.int .i64 A.a) ∧ w'.cell? ⟨Y, 2, none⟩ = some (.int .i64 A.v)) ∧ (w'.cell? ⟨Y + 1, 0, none⟩ = some (.int .i64 A.a) ∧ w'.cell? ⟨Y + 1, 1, none⟩ = some (.int .i64 A.v))) (exact hkd)
                  (first | (go_at_call 13; refine ((HT.out.flush HAD.out.i.tt A.a A.v HX.out.1 HX.out.2).mono ?_); rw [HDV.out]; rintro e w5 ⟨rfl, h5⟩; obtain ⟨O5, h5⟩ := HAD.out.left HT.out h5; have HAR5 := Lib.hid h5; have hkd := HAR5.out.held; clear h5) | (go_at_call 14; refine ((ref_flush_ok HAR5.out.i.rt A.a A.v).mono ?_); rw [HDV.out]; rintro e w6 ⟨rfl, h6⟩; obtain ⟨v6, h6⟩ := HAR5.out.right HT.out h6; have HAR6 := Lib.hid h6; have hkd := HAR6.out.held; clear h6))
                all_goals
                  go_wp2
                  go_meet
                  case rel => exact ⟨rfl, _, _, _, HAR6⟩
              · have e1 : (A.k == 1) = false := by simp [hk1]
                clear hk1
                by_cases hk2 : A.k = 2
                · have e2 : (A.k == 2) = true := by simp [hk2]
                  clear hk2
                  have HAD := Lib.hid (show AR T w wA.drew p r size xs xs O' v Y A from HAR.out.grow HT.out ⟨rfl, rfl, rfl, Nat.le_refl _, fun _ _ _ => rfl⟩)
                  have hkd := HAD.out.held
                  obtain ⟨dv, hdv⟩ : ∃ dv, ((xs.length : Int) - ((dropK (fun x => x.a == A.a) xs).length : Int)) = dv := ⟨_, rfl⟩
                  have HDV := Lib.hid hdv
                  clear hdv
                  go_wp2_with fail
                  go_region_held3 (fun w' => (w'.cell? ⟨Y, 1, none⟩ = some (.int .i64 A.a) ∧ w'.cell? ⟨Y, 2, none⟩ = some (.int .i64 A.v)) ∧ (w'.cell? ⟨Y + 1, 0, none⟩ = some (.int .i64 A.a) ∧ w'.cell? ⟨Y + 1, 1, none⟩ = some (.int .i64 A.v))) (exact hkd)
                    (first | (go_at_call 15; refine ((HT.out.flushAsid HAD.out.i.tt A.a HX.out.1).mono ?_); rw [HDV.out]; rintro e w5 ⟨rfl, h5⟩; obtain ⟨O5, h5⟩ := HAD.out.left HT.out h5; have HAR5 := Lib.hid h5; have hkd := HAR5.out.held; clear h5) | (go_at_call 16; refine ((ref_flushAsid_ok HAR5.out.i.rt A.a).mono ?_); rw [HDV.out]; rintro e w6 ⟨rfl, h6⟩; obtain ⟨v6, h6⟩ := HAR5.out.right HT.out h6; have HAR6 := Lib.hid h6; have hkd := HAR6.out.held; clear h6))
                  all_goals
                    go_wp2
                    go_meet
                    case rel => exact ⟨rfl, _, _, _, HAR6⟩
                · have e2 : (A.k == 2) = false := by simp [hk2]
                  clear hk2
                  by_cases hk3 : A.k = 3
                  · have e3 : (A.k == 3) = true := by simp [hk3]
                    clear hk3
                    go_wp2_with fail
                    refine (HT.out.flushAll HAR.out.i.tt).mono ?_
                    rintro e w5 ⟨rfl, h5⟩
                    obtain ⟨O5, h5⟩ := HAR.out.left HT.out h5
                    have HAR5 := Lib.hid h5
                    clear h5
                    go_wp2_with fail
                    refine (ref_flushAll_ok HAR5.out.i.rt).mono ?_
                    rintro e w6 ⟨rfl, h6⟩
                    obtain ⟨v6, h6⟩ := HAR5.out.right HT.out h6
                    have HAR6 := Lib.hid h6
                    clear h6
                    go_wp2
                    go_meet
                    case rel => exact ⟨rfl, _, _, _, HAR6⟩
                  · have e3 : (A.k == 3) = false := by simp [hk3]
                    clear hk3
                    have HAR6 := HAR
                    go_wp2
                    go_meet
                    case rel => exact ⟨rfl, _, _, _, HAR6⟩
          case rest =>
            obtain ⟨rfl, xs2, O2, v2, HA2⟩ := hcut
            clear HAR HIr
            obtain ⟨ff, fg, fb, hff⟩ := findV_form xs2 A.a A.v
            have HFF := Lib.hid hff
            clear hff
            obtain ⟨s2, c2, hv2⟩ := HA2.out.i.rt.row.form
            subst hv2
            have hxl := HA2.out.i.rt.lenN
            obtain ⟨b0, b1, b2, b3, b4⟩ := HA2.out.yb.at
            go_wp2_with fail
            refine (HT.out.find HA2.out.i.tt A.a A.v HX.out.1 HX.out.2).mono ?_
            rw [HFF.out]
            rintro e w4 ⟨rfl, g4⟩
            have ga := World.grownBy_alloc w4 (.cells #[.int .i64 ff, .int .i64 fg] 31) none
            have HA4 := Lib.hid ((HA2.out.grow HT.out g4).grow HT.out ga)
            have HE4 := Lib.hid (TwoB.new w4 31 (.int .i64 ff) (.int .i64 fg))
            obtain ⟨z0, z1⟩ := HA4.out.zb.at
            clear b0 b1 b2 b3 b4 g4 ga
            go_wp2_with fail
            refine (ref_find_ok HA4.out.i.rt A.a A.v).mono ?_
            rw [HFF.out]
            rintro e w5 ⟨rfl, g5⟩
            have ga := World.grownBy_alloc w5 (.cells #[.int .i64 ff, .int .i64 fg] 31) none
            have HA5 := Lib.hid ((HA4.out.grow HT.out g5).grow HT.out ga)
            have HE5 := Lib.hid ((HE4.out.grow g5).grow ga)
            have HD5 := Lib.hid (TwoB.new w5 31 (.int .i64 ff) (.int .i64 fg))
            clear z0 z1 g5 ga
            go_wp2_with fail
            refine (HT.out.keys HA5.out.i.tt).mono ?_
            rintro e w6 ⟨v6, rfl, hrow, g6, _⟩
            obtain ⟨s6, c6, hv6⟩ := hrow.form
            subst hv6
            have gd : w6.grownBy w6.drew none := ⟨rfl, rfl, rfl, Nat.le_refl _, fun _ _ _ => rfl⟩
            have HA6 := Lib.hid ((HA5.out.grow HT.out g6).grow HT.out gd)
            have HE6 := Lib.hid ((HE5.out.grow g6).grow gd)
            have HD6 := Lib.hid ((HD5.out.grow g6).grow gd)
            have HW6 := Lib.hid (hrow.grow gd)
            clear hrow g6 gd
            have hkd := HE6.out.at
            have hkd2 := HD6.out.at
            have hkd3 := HA6.out.i.rt.at
            go_wp2_with fail
            go_region_held3 (fun w' => ((w'.cell? ⟨w4.heap.size, 0, none⟩ = some (.int .i64 ff) ∧ w'.cell? ⟨w4.heap.size, 1, none⟩ = some (.int .i64 fg)) ∧ (w'.cell? ⟨w5.heap.size, 0, none⟩ = some (.int .i64 ff) ∧ w'.cell? ⟨w5.heap.size, 1, none⟩ = some (.int .i64 fg))) ∧ (w'.cell? ⟨r, 0, none⟩ = some (.int .i64 size) ∧ w'.cell? ⟨r, 1, none⟩ = some (.slice s2 xs2.length c2))) (exact ⟨⟨hkd, hkd2⟩, hkd3⟩)
              (first | (go_at_call 22; refine ((HT.out.len HA6.out.i.tt).mono ?_); rintro e w7 ⟨rfl, g7⟩; have HA7 := Lib.hid (HA6.out.grow HT.out g7); have hkd := (HE6.out.grow g7).at; have hkd2 := (HD6.out.grow g7).at; have hkd3 := HA7.out.i.rt.at; have HW7 := Lib.hid (HW6.out.grow g7); clear g7))
            all_goals
              go_wp2_with fail
            clear hkd hkd2 hkd3
            go_loopw [136] (fun i wx => ∃ q : Nat, q ≤ xs2.length ∧ i = .int .i64 q ∧ Hid (w7.grownBy wx none)) (fun i _ => xs2.length - (intOf i).toNat)
            case atStart => exact ⟨0, by omega, rfl, grown_refl _ _⟩
            case round =>
              obtain ⟨q, hq, rfl, HGq⟩ := hrel
              have HAq := Lib.hid (HA7.out.grow HT.out HGq.out)
              by_cases hqt : q < xs2.length
              · obtain ⟨y, hy⟩ : ∃ y, xs2[q]? = some y := ⟨_, List.getElem?_eq_getElem hqt⟩
                obtain ⟨g6, o6, c6', hs6, k0, k1⟩ := key_cells (HW7.out.grow HGq.out) hy
                injection hs6 with e1 e2 e3
                subst e1 e3
                obtain ⟨g2, o2, c2', hs2, m0, m1, m2, m3⟩ := kept_cells HAq.out.i.rt.row hy
                injection hs2 with e4 e5 e6
                subst e4 e6
                obtain ⟨r0, r1⟩ := HAq.out.i.rt.at
                have hne := fun wx => neq_key wx y.a y.v
                clear hy
                go_wp2_with fail
                go_quiet (fail)
                go_wp2_with fail
                go_roundw
                case rel => exact ⟨q + 1, by omega, by go_num, Lib.hid (grown_trans HGq.out (grown_draws _ _ _))⟩
                case measure => simp [intOf]; omega
              · obtain rfl : q = xs2.length := by omega
                go_wp2_with fail
                go_roundg (l - (j + 1))
                case measure => omega
                case rel => exact ⟨j + 1, xs2, O2, _, by omega, by omega, by go_num, Lib.hid HAq.out.i⟩
        · obtain rfl : l = j := by omega
          clear hj hlt
          go_wp2_with fail
          refine (HLv.out _).mono ?_
          rintro e w6 ⟨rfl, g6⟩
          have HG8 := Lib.hid (grown_trans HIr.out.grown g6)
          clear g6
          go_wp2_with fail
          go_ret
          exact ⟨rfl, HG8.out⟩
  · exact tacts_none H w s l c size hs
end Go.Proofs.Ytmddflhacamnaaa
