/- awake of layer 6: the trees of the document's own example, as they lie. -/
import Derived.Test.YtobmpipifdielaaNodeKindD
import Derived.Deep.RegionHeld3
namespace Go.Proofs.Ytobmpipifdielaa
open Go.RowKit

def xN : Nd := .mk 21 3 0 [120] []
def nN : Nd := .mk 24 0 0 [] [xN, xN]
def aN : Nd := .mk 1 0 0 [97] []
def cN : Nd := .mk 2 0 0 [84] []
def tN : Nd := .mk 2 0 0 [45, 62] [aN, cN]
def xC : NC := ⟨21, 3, 0, [120], none, 0, 0⟩
def nC (b : Nat) : NC := ⟨24, 0, 0, [], some ⟨b, 0, none⟩, 2, 2⟩
def tC (b : Nat) : NC := ⟨2, 0, 0, [45, 62], some ⟨b, 0, none⟩, 2, 2⟩
theorem leaf_at (w : World) (k p n : Int) (t : List UInt8) : TreeAt w ⟨k, p, n, t, none, 0, 0⟩ (.mk k p n t []) :=
  .mk _ _ [] rfl rfl rfl rfl rfl (RowIn.nil _ _) fun i h => absurd h (Nat.not_lt_zero _)
theorem two_at {w : World} {b : Nat} {c1 c2 : NC} {t1 t2 : Nd} {ty : TypeId} (k p n : Int) (t : List UInt8) (hb : w.heap[b]? = some (.cells (encN c1 ++ encN c2).toArray ty)) (h1 : TreeAt w c1 t1) (h2 : TreeAt w c2 t2) :
    TreeAt w ⟨k, p, n, t, some ⟨b, 0, none⟩, 2, 2⟩ (.mk k p n t [t1, t2]) := by
  refine .mk _ _ [c1, c2] rfl rfl rfl rfl rfl ⟨_, 2, rfl, Nat.le_refl _, .inr ⟨b, 0, rfl, trivial, (Array.getElem?_eq_some_iff.1 hb).1, fun j u hu => ?_⟩⟩ fun i h h' => ?_
  · simp only [World.cell?, hb]
    rw [Nat.zero_add]
    simpa using hu
  · match i, h with
    | 0, _ => exact h1
    | 1, _ => exact h2
theorem len_small {t : List UInt8} (h : t.length ≤ 2) : t.length ≤ maxLen := by unfold maxLen; omega
theorem fit_leaf (k p n : Int) (t : List UInt8) (h : t.length ≤ 2) : Nd.Fit (.mk k p n t []) := ⟨Nat.le_of_ble_eq_true rfl, len_small h, trivial⟩
theorem fit_two (k p n k1 p1 n1 k2 p2 n2 : Int) (t t1 t2 : List UInt8) (h : t.length ≤ 2) (h1 : t1.length ≤ 2) (h2 : t2.length ≤ 2) : Nd.Fit (.mk k p n t [.mk k1 p1 n1 t1 [], .mk k2 p2 n2 t2 []]) :=
  ⟨Nat.le_of_ble_eq_true rfl, len_small h, ⟨len_small h1, trivial⟩, ⟨len_small h2, trivial⟩, trivial⟩
theorem deep_n : nN.depth = 2 ∧ nN.size = 3 := ⟨by kernel_rfl, by kernel_rfl⟩
theorem same_x : Nd.same xN nN = false ∧ Nd.same xN xN.strip = true := ⟨by kernel_rfl, (Nd.same_strip xN).1⟩
theorem exp_n : nN.isExp = true ∧ (Nd.mk 24 0 0 [] []).isExp = false := ⟨by kernel_rfl, by kernel_rfl⟩
theorem typ_t : tN.isTyp = true ∧ xN.isTyp = false := ⟨by kernel_rfl, by kernel_rfl⟩
theorem pat_a : (Nd.mk 12 0 0 [] []).isPat = true ∧ xN.isPat = false := ⟨by kernel_rfl, by kernel_rfl⟩
theorem dcl_p : (Nd.mk 37 0 0 [] []).isDcl = true ∧ xN.isDcl = false := ⟨by kernel_rfl, by kernel_rfl⟩
theorem awake_world (w : World) : ∃ V, V = (((((w.alloc (.cells #[.int .i64 21, .int .i64 3, .int .i64 0, .string ⟨#[120]⟩, .slice none 0 0] 24)).alloc
      (.cells #[.int .i64 21, .int .i64 3, .int .i64 0, .string ⟨#[120]⟩, .slice none 0 0, .int .i64 21, .int .i64 3, .int .i64 0, .string ⟨#[120]⟩, .slice none 0 0] 24)).alloc
      (.cells #[.int .i64 24, .int .i64 0, .int .i64 0, .string ⟨#[]⟩, .slice (some ⟨w.heap.size + 1, 0, none⟩) 2 2] 24)).alloc
      (.cells #[.int .i64 1, .int .i64 0, .int .i64 0, .string ⟨#[97]⟩, .slice none 0 0, .int .i64 2, .int .i64 0, .int .i64 0, .string ⟨#[84]⟩, .slice none 0 0] 24)).alloc
      (.cells #[.int .i64 2, .int .i64 0, .int .i64 0, .string ⟨#[45, 62]⟩, .slice (some ⟨w.heap.size + 1 + 1 + 1, 0, none⟩) 2 2] 24)) ∧
    NBox V w.heap.size xC ∧ NBox V (w.heap.size + 1 + 1) (nC (w.heap.size + 1)) ∧ NBox V (w.heap.size + 1 + 1 + 1 + 1) (tC (w.heap.size + 1 + 1 + 1)) ∧ TreeAt V (nC (w.heap.size + 1)) nN ∧ TreeAt V (tC (w.heap.size + 1 + 1 + 1)) tN ∧ Below w.heap.size w V ∧ V.heap.size = w.heap.size + 1 + 1 + 1 + 1 + 1 := by
  obtain ⟨V1, h1⟩ : ∃ V1, V1 = w.alloc (.cells #[.int .i64 21, .int .i64 3, .int .i64 0, .string ⟨#[120]⟩, .slice none 0 0] 24) := ⟨_, rfl⟩
  have b1 : NBox V1 w.heap.size xC := by rw [h1]; exact NBox.new w xC 24
  have s1 : V1.heap.size = w.heap.size + 1 := by rw [h1]; simp
  have e1 := h1
  obtain ⟨V2, h2⟩ : ∃ V2, V2 = V1.alloc (.cells #[.int .i64 21, .int .i64 3, .int .i64 0, .string ⟨#[120]⟩, .slice none 0 0, .int .i64 21, .int .i64 3, .int .i64 0, .string ⟨#[120]⟩, .slice none 0 0] 24) := ⟨_, rfl⟩
  have r2 := World.alloc_heap_new V1 (.cells #[.int .i64 21, .int .i64 3, .int .i64 0, .string ⟨#[120]⟩, .slice none 0 0, .int .i64 21, .int .i64 3, .int .i64 0, .string ⟨#[120]⟩, .slice none 0 0] 24)
  have s2 : V2.heap.size = w.heap.size + 1 + 1 := by rw [h2]; simp [s1]
  obtain ⟨V3, h3⟩ : ∃ V3, V3 = V2.alloc (.cells #[.int .i64 24, .int .i64 0, .int .i64 0, .string ⟨#[]⟩, .slice (some ⟨w.heap.size + 1, 0, none⟩) 2 2] 24) := ⟨_, rfl⟩
  have b3 : NBox V3 V2.heap.size (nC (w.heap.size + 1)) := by rw [h3]; exact NBox.new V2 (nC (w.heap.size + 1)) 24
  have s3 : V3.heap.size = w.heap.size + 1 + 1 + 1 := by rw [h3]; simp [s2]
  obtain ⟨V4, h4⟩ : ∃ V4, V4 = V3.alloc (.cells #[.int .i64 1, .int .i64 0, .int .i64 0, .string ⟨#[97]⟩, .slice none 0 0, .int .i64 2, .int .i64 0, .int .i64 0, .string ⟨#[84]⟩, .slice none 0 0] 24) := ⟨_, rfl⟩
  have r4 := World.alloc_heap_new V3 (.cells #[.int .i64 1, .int .i64 0, .int .i64 0, .string ⟨#[97]⟩, .slice none 0 0, .int .i64 2, .int .i64 0, .int .i64 0, .string ⟨#[84]⟩, .slice none 0 0] 24)
  have s4 : V4.heap.size = w.heap.size + 1 + 1 + 1 + 1 := by rw [h4]; simp [s3]
  obtain ⟨V5, h5⟩ : ∃ V5, V5 = V4.alloc (.cells #[.int .i64 2, .int .i64 0, .int .i64 0, .string ⟨#[45, 62]⟩, .slice (some ⟨w.heap.size + 1 + 1 + 1, 0, none⟩) 2 2] 24) := ⟨_, rfl⟩
  have b5 : NBox V5 V4.heap.size (tC (w.heap.size + 1 + 1 + 1)) := by rw [h5]; exact NBox.new V4 (tC (w.heap.size + 1 + 1 + 1)) 24
  have s5 : V5.heap.size = w.heap.size + 1 + 1 + 1 + 1 + 1 := by rw [h5]; simp [s4]
  have k2 : Below V1.heap.size V1 V2 := by rw [h2]; exact (Below.refl _ _).alloc (Nat.le_refl _) _
  have k3 : Below V2.heap.size V2 V3 := by rw [h3]; exact (Below.refl _ _).alloc (Nat.le_refl _) _
  have k4 : Below V3.heap.size V3 V4 := by rw [h4]; exact (Below.refl _ _).alloc (Nat.le_refl _) _
  have k5 : Below V4.heap.size V4 V5 := by rw [h5]; exact (Below.refl _ _).alloc (Nat.le_refl _) _
  have k45 : Below V3.heap.size V3 V5 := k4.trans (k5.mono (by omega))
  have k35 : Below V2.heap.size V2 V5 := k3.trans (k45.mono (by omega))
  have k25 : Below V1.heap.size V1 V5 := k2.trans (k35.mono (by omega))
  have k15 : Below w.heap.size w V5 := by
    have : Below w.heap.size w V1 := by rw [h1]; exact (Below.refl _ _).alloc (Nat.le_refl _) _
    exact this.trans (k25.mono (by omega))
  rw [s2] at b3
  rw [s4] at b5
  rw [← h2, s1] at r2
  rw [← h4, s3] at r4
  refine ⟨V5, by rw [h5, h4, h3, h2, h1], b1.same (k25.block _ (by omega)), b3.same (k45.block _ (by omega)), b5, ?_, ?_, k15, s5⟩
  · exact two_at _ _ _ _ (c1 := xC) (c2 := xC) (ty := 24) ((k35.block _ (by omega)).trans r2) (leaf_at _ _ _ _ _) (leaf_at _ _ _ _ _)
  · exact two_at _ _ _ _ (c1 := ⟨1, 0, 0, [97], none, 0, 0⟩) (c2 := ⟨2, 0, 0, [84], none, 0, 0⟩) (ty := 24) ((k5.block _ (by omega)).trans r4) (leaf_at _ _ _ _ _) (leaf_at _ _ _ _ _)

theorem nfld1 (a b c : Int) (d : ByteArray) (p : Option Addr) (k m : Nat) (w : World) : (Instr.field 24 (.agg #[.int .i64 a, .int .i64 b, .int .i64 c, .string d, .slice p k m]) 1).run Try.prog w = .ok (.int .i64 b) w := by kernel_rfl
attribute [local go_sem] nfld1
/-- a tree lies there, of which q says b -/
def At (q : Nd → Bool) (w : World) (k p n : Int) (t : List UInt8) (kp : Option Addr) (kl kc : Nat) (b : Bool) : Prop := ∃ u, TreeAt w ⟨k, p, n, t, kp, kl, kc⟩ u ∧ Nd.Fit u ∧ q u = b
set_option maxRecDepth 100000 in
set_option maxHeartbeats 8000000 in
theorem awake_any (w : World) : Calls Try.prog 8 #[] w (SaysIs true w) := by
  obtain ⟨V, hV, bX, bN, bT, tN', tT, hVB, hVs⟩ := awake_world w
  have HV := Lib.hid hV
  have HX := Lib.hid bX
  have HN := Lib.hid bN
  have HT := Lib.hid bT
  have HnN := Lib.hid tN'
  have HtT := Lib.hid tT
  have HVB := Lib.hid hVB
  have HVS := Lib.hid hVs
  clear hV bX bN bT tN' tT hVB hVs
  have FX : Nd.Fit xN := fit_leaf _ _ _ _ (by decide)
  have FN : Nd.Fit nN := fit_two _ _ _ _ _ _ _ _ _ _ _ _ (by decide) (by decide) (by decide)
  have FT : Nd.Fit tN := fit_two _ _ _ _ _ _ _ _ _ _ _ _ (by decide) (by decide) (by decide)
  go_enter Try.func8, Try.ntmps8
  go_upto_region 4 with fail
  rw [← HV.out]
  clear HV
  have HPExp : ∀ (k p n : Int) (t : List UInt8) (kp : Option Addr) (kl kc : Nat) (b : Bool) (wx : World), Below V.heap.size V wx → At Nd.isExp wx k p n t kp kl kc b → Calls Try.prog 22 #[.agg #[.int .i64 k, .int .i64 p, .int .i64 n, .string ⟨t.toArray⟩, .slice kp kl kc]] wx fun e w' => e = .returned (.bool b) ∧ Below V.heap.size V w' := fun k p n t kp kl kc b wx hB ⟨u, h1, h2, h3⟩ => by
    have HC := exp_any u h2 _ wx h1
    rw [h3] at HC
    refine HC.mono ?_
    rintro e w' ⟨rfl, hC⟩
    exact ⟨rfl, hB.trans (hC.mono hB.size)⟩
  have AExp0 : ∀ wx, Below V.heap.size V wx → At Nd.isExp wx 24 0 0 [] (some ⟨w.heap.size + 1, 0, none⟩) 2 2 true := fun wx hB => ⟨nN, (HnN.out.later hB), FN, exp_n.1⟩
  have AExp1 : ∀ wx, Below V.heap.size V wx → At Nd.isExp wx 24 0 0 [] none 0 0 false := fun wx hB => ⟨_, (leaf_at _ _ _ _ _), (fit_leaf _ _ _ _ (by decide)), exp_n.2⟩
  have HPType : ∀ (k p n : Int) (t : List UInt8) (kp : Option Addr) (kl kc : Nat) (b : Bool) (wx : World), Below V.heap.size V wx → At Nd.isTyp wx k p n t kp kl kc b → Calls Try.prog 18 #[.agg #[.int .i64 k, .int .i64 p, .int .i64 n, .string ⟨t.toArray⟩, .slice kp kl kc]] wx fun e w' => e = .returned (.bool b) ∧ Below V.heap.size V w' := fun k p n t kp kl kc b wx hB ⟨u, h1, h2, h3⟩ => by
    have HC := type_any u h2 _ wx h1
    rw [h3] at HC
    refine HC.mono ?_
    rintro e w' ⟨rfl, hC⟩
    exact ⟨rfl, hB.trans (hC.mono hB.size)⟩
  have AType0 : ∀ wx, Below V.heap.size V wx → At Nd.isTyp wx 2 0 0 [45, 62] (some ⟨w.heap.size + 1 + 1 + 1, 0, none⟩) 2 2 true := fun wx hB => ⟨tN, (HtT.out.later hB), FT, typ_t.1⟩
  have AType1 : ∀ wx, Below V.heap.size V wx → At Nd.isTyp wx 21 3 0 [120] none 0 0 false := fun wx hB => ⟨_, (leaf_at _ _ _ _ _), FX, typ_t.2⟩
  have HPPat : ∀ (k p n : Int) (t : List UInt8) (kp : Option Addr) (kl kc : Nat) (b : Bool) (wx : World), Below V.heap.size V wx → At Nd.isPat wx k p n t kp kl kc b → Calls Try.prog 20 #[.agg #[.int .i64 k, .int .i64 p, .int .i64 n, .string ⟨t.toArray⟩, .slice kp kl kc]] wx fun e w' => e = .returned (.bool b) ∧ Below V.heap.size V w' := fun k p n t kp kl kc b wx hB ⟨u, h1, h2, h3⟩ => by
    have HC := pat_any u h2 _ wx h1
    rw [h3] at HC
    refine HC.mono ?_
    rintro e w' ⟨rfl, hC⟩
    exact ⟨rfl, hB.trans (hC.mono hB.size)⟩
  have APat0 : ∀ wx, Below V.heap.size V wx → At Nd.isPat wx 12 0 0 [] none 0 0 true := fun wx hB => ⟨_, (leaf_at _ _ _ _ _), (fit_leaf _ _ _ _ (by decide)), pat_a.1⟩
  have APat1 : ∀ wx, Below V.heap.size V wx → At Nd.isPat wx 21 3 0 [120] none 0 0 false := fun wx hB => ⟨_, (leaf_at _ _ _ _ _), FX, pat_a.2⟩
  have HPDecl : ∀ (k p n : Int) (t : List UInt8) (kp : Option Addr) (kl kc : Nat) (b : Bool) (wx : World), Below V.heap.size V wx → At Nd.isDcl wx k p n t kp kl kc b → Calls Try.prog 24 #[.agg #[.int .i64 k, .int .i64 p, .int .i64 n, .string ⟨t.toArray⟩, .slice kp kl kc]] wx fun e w' => e = .returned (.bool b) ∧ Below V.heap.size V w' := fun k p n t kp kl kc b wx hB ⟨u, h1, h2, h3⟩ => by
    have HC := decl_any u h2 _ wx h1
    rw [h3] at HC
    refine HC.mono ?_
    rintro e w' ⟨rfl, hC⟩
    exact ⟨rfl, hB.trans (hC.mono hB.size)⟩
  have ADecl0 : ∀ wx, Below V.heap.size V wx → At Nd.isDcl wx 37 0 0 [] none 0 0 true := fun wx hB => ⟨_, (leaf_at _ _ _ _ _), (fit_leaf _ _ _ _ (by decide)), dcl_p.1⟩
  have ADecl1 : ∀ wx, Below V.heap.size V wx → At Nd.isDcl wx 21 3 0 [120] none 0 0 false := fun wx hB => ⟨_, (leaf_at _ _ _ _ _), FX, dcl_p.2⟩
  have HPDepth : ∀ wx, Below V.heap.size V wx → Calls Try.prog 11 #[.agg #[.int .i64 24, .int .i64 0, .int .i64 0, .string ⟨#[]⟩, .slice (some ⟨w.heap.size + 1, 0, none⟩) 2 2]] wx fun e w' => e = .returned (.int .i64 2) ∧ Below V.heap.size V w' := fun wx hB => by
    have HC := depth_any (HnN.out.later hB) FN.size
    rw [deep_n.1] at HC
    refine HC.mono ?_
    rintro e w' ⟨rfl, hC⟩
    exact ⟨rfl, hB.trans (hC.mono hB.size)⟩
  have HPSize : ∀ wx, Below V.heap.size V wx → Calls Try.prog 9 #[.agg #[.int .i64 24, .int .i64 0, .int .i64 0, .string ⟨#[]⟩, .slice (some ⟨w.heap.size + 1, 0, none⟩) 2 2]] wx fun e w' => e = .returned (.int .i64 3) ∧ Below V.heap.size V w' := fun wx hB => by
    have HC := size_any (HnN.out.later hB) FN.size
    rw [deep_n.2] at HC
    refine HC.mono ?_
    rintro e w' ⟨rfl, hC⟩
    exact ⟨rfl, hB.trans (hC.mono hB.size)⟩
  have HPStrip : ∀ wx, Below V.heap.size V wx → Calls Try.prog 13 #[.agg #[.int .i64 21, .int .i64 3, .int .i64 0, .string ⟨#[120]⟩, .slice none 0 0]] wx fun e w' => ∃ (dk dn : Int) (dt : List UInt8) (dkp : Option Addr) (dkl dkc : Nat), e = .returned (.agg #[.int .i64 dk, .int .i64 0, .int .i64 dn, .string ⟨dt.toArray⟩, .slice dkp dkl dkc]) ∧ At (Nd.same xN) w' dk 0 dn dt dkp dkl dkc true ∧ Below V.heap.size V w' := fun wx hB => by
    have HC := strip_any xN _ xC wx (leaf_at wx _ _ _ _) FX.size
    refine HC.mono ?_
    rintro e w' ⟨⟨dk, dp, dn, dt, dkp, dkl, dkc⟩, rfl, hd, hC⟩
    have hd := hd.mono (S' := fun _ => True) fun _ _ _ => trivial
    obtain rfl : dp = 0 := hd.pos
    exact ⟨dk, dn, dt, dkp, dkl, dkc, rfl, ⟨_, hd, fit_leaf 21 0 0 [120] (by decide), same_x.2⟩, hB.trans (hC.mono hB.size)⟩
  have HPSame : ∀ (k p n : Int) (t : List UInt8) (kp : Option Addr) (kl kc : Nat) (b : Bool) (wx : World), Below V.heap.size V wx → At (Nd.same xN) wx k p n t kp kl kc b → Calls Try.prog 14 #[.agg #[.int .i64 21, .int .i64 3, .int .i64 0, .string ⟨#[120]⟩, .slice none 0 0], .agg #[.int .i64 k, .int .i64 p, .int .i64 n, .string ⟨t.toArray⟩, .slice kp kl kc]] wx fun e w' => e = .returned (.bool b) ∧ Below V.heap.size V w' := fun k p n t kp kl kc b wx hB ⟨u, h1, h2, h3⟩ => by
    have HC := same_any xN _ _ u xC _ wx (leaf_at _ _ _ _ _) h1 FX.size
    rw [h3] at HC
    refine HC.mono ?_
    rintro e w' ⟨rfl, hC⟩
    exact ⟨rfl, hB.trans (hC.mono hB.size)⟩
  have ASame0 : ∀ wx, Below V.heap.size V wx → At (Nd.same xN) wx 24 0 0 [] (some ⟨w.heap.size + 1, 0, none⟩) 2 2 false := fun wx hB => ⟨nN, HnN.out.later hB, FN, same_x.1⟩
  have KEEP : Hid (∀ wx, Below V.heap.size V wx → Below V.heap.size V wx ∧ wx.cell? ⟨w.heap.size, 0, none⟩ = some (.int .i64 21) ∧ wx.cell? ⟨w.heap.size, 1, none⟩ = some (.int .i64 3) ∧ wx.cell? ⟨w.heap.size, 2, none⟩ = some (.int .i64 0) ∧ wx.cell? ⟨w.heap.size, 3, none⟩ = some (.string ⟨#[120]⟩) ∧ wx.cell? ⟨w.heap.size, 4, none⟩ = some (.slice none 0 0) ∧ wx.cell? ⟨w.heap.size + 1 + 1, 0, none⟩ = some (.int .i64 24) ∧ wx.cell? ⟨w.heap.size + 1 + 1, 1, none⟩ = some (.int .i64 0) ∧ wx.cell? ⟨w.heap.size + 1 + 1, 2, none⟩ = some (.int .i64 0) ∧ wx.cell? ⟨w.heap.size + 1 + 1, 3, none⟩ = some (.string ⟨#[]⟩) ∧ wx.cell? ⟨w.heap.size + 1 + 1, 4, none⟩ = some (.slice (some ⟨w.heap.size + 1, 0, none⟩) 2 2) ∧ wx.cell? ⟨w.heap.size + 1 + 1 + 1 + 1, 0, none⟩ = some (.int .i64 2) ∧ wx.cell? ⟨w.heap.size + 1 + 1 + 1 + 1, 1, none⟩ = some (.int .i64 0) ∧ wx.cell? ⟨w.heap.size + 1 + 1 + 1 + 1, 2, none⟩ = some (.int .i64 0) ∧ wx.cell? ⟨w.heap.size + 1 + 1 + 1 + 1, 3, none⟩ = some (.string ⟨#[45, 62]⟩) ∧ wx.cell? ⟨w.heap.size + 1 + 1 + 1 + 1, 4, none⟩ = some (.slice (some ⟨w.heap.size + 1 + 1 + 1, 0, none⟩) 2 2)) := fun wx hB => by
    obtain ⟨x0, x1, x2, x3, x4⟩ := HX.out.same (hB.block w.heap.size (by rw [HVS.out]; omega))
    obtain ⟨n0, n1, n2, n3, n4⟩ := HN.out.same (hB.block (w.heap.size + 1 + 1) (by rw [HVS.out]; omega))
    obtain ⟨t0, t1, t2, t3, t4⟩ := HT.out.same (hB.block (w.heap.size + 1 + 1 + 1 + 1) (by rw [HVS.out]; omega))
    exact ⟨hB, x0, x1, x2, x3, x4, n0, n1, n2, n3, n4, t0, t1, t2, t3, t4⟩
  go_region_held3 (fun wx => Below V.heap.size V wx ∧ wx.cell? ⟨w.heap.size, 0, none⟩ = some (.int .i64 21) ∧ wx.cell? ⟨w.heap.size, 1, none⟩ = some (.int .i64 3) ∧ wx.cell? ⟨w.heap.size, 2, none⟩ = some (.int .i64 0) ∧ wx.cell? ⟨w.heap.size, 3, none⟩ = some (.string ⟨#[120]⟩) ∧ wx.cell? ⟨w.heap.size, 4, none⟩ = some (.slice none 0 0) ∧ wx.cell? ⟨w.heap.size + 1 + 1, 0, none⟩ = some (.int .i64 24) ∧ wx.cell? ⟨w.heap.size + 1 + 1, 1, none⟩ = some (.int .i64 0) ∧ wx.cell? ⟨w.heap.size + 1 + 1, 2, none⟩ = some (.int .i64 0) ∧ wx.cell? ⟨w.heap.size + 1 + 1, 3, none⟩ = some (.string ⟨#[]⟩) ∧ wx.cell? ⟨w.heap.size + 1 + 1, 4, none⟩ = some (.slice (some ⟨w.heap.size + 1, 0, none⟩) 2 2) ∧ wx.cell? ⟨w.heap.size + 1 + 1 + 1 + 1, 0, none⟩ = some (.int .i64 2) ∧ wx.cell? ⟨w.heap.size + 1 + 1 + 1 + 1, 1, none⟩ = some (.int .i64 0) ∧ wx.cell? ⟨w.heap.size + 1 + 1 + 1 + 1, 2, none⟩ = some (.int .i64 0) ∧ wx.cell? ⟨w.heap.size + 1 + 1 + 1 + 1, 3, none⟩ = some (.string ⟨#[45, 62]⟩) ∧ wx.cell? ⟨w.heap.size + 1 + 1 + 1 + 1, 4, none⟩ = some (.slice (some ⟨w.heap.size + 1 + 1 + 1, 0, none⟩) 2 2))
    (first | exact KEEP.out _ (Below.refl _ V) | exact KEEP.out _ ((Below.refl _ V).drew) | exact KEEP.out _ hacc)
    (first
    | (go_at_call 22; refine (HPExp _ _ _ _ _ _ _ _ _ hacc (by first | exact AExp0 _ hacc | exact AExp1 _ hacc)).mono ?_; rintro e w6 ⟨rfl, hacc⟩)
    | (go_at_call 18; refine (HPType _ _ _ _ _ _ _ _ _ hacc (by first | exact AType0 _ hacc | exact AType1 _ hacc)).mono ?_; rintro e w6 ⟨rfl, hacc⟩)
    | (go_at_call 20; refine (HPPat _ _ _ _ _ _ _ _ _ hacc (by first | exact APat0 _ hacc | exact APat1 _ hacc)).mono ?_; rintro e w6 ⟨rfl, hacc⟩)
    | (go_at_call 24; refine (HPDecl _ _ _ _ _ _ _ _ _ hacc (by first | exact ADecl0 _ hacc | exact ADecl1 _ hacc)).mono ?_; rintro e w6 ⟨rfl, hacc⟩)
    | (go_at_call 11; refine (HPDepth _ ?_).mono ?_; (first | exact hacc | exact (Below.refl _ V).drew | exact Below.refl _ V); rintro e w6 ⟨rfl, hacc⟩)
    | (go_at_call 9; refine (HPSize _ ?_).mono ?_; (first | exact hacc | exact (Below.refl _ V).drew | exact Below.refl _ V); rintro e w6 ⟨rfl, hacc⟩)
    | (go_at_call 13; refine (HPStrip _ ?_).mono ?_; (first | exact hacc | exact (Below.refl _ V).drew | exact Below.refl _ V); rintro e w6 ⟨dk, dn, dt, dkp, dkl, dkc, rfl, hd, hacc⟩)
    | (go_at_call 14; refine (HPSame _ _ _ _ _ _ _ _ _ hacc (by first | exact ASame0 _ hacc | exact hd)).mono ?_; rintro e w6 ⟨rfl, hacc⟩))
  go_wp2_with fail
  go_ret
  exact ⟨rfl, HVB.out.trans (hacc.mono (by rw [HVS.out]; omega))⟩
end Go.Proofs.Ytobmpipifdielaa
