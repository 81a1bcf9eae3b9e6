/- Trees that are the same: nodes.Same, and the document's Same and Just. -/
import Derived.Test.YtobmpipifdielaaNodeSize
import Derived.Deep.QuietTactic
import Derived.BigQuiet
import Derived.StillTailTactics
namespace Go.Proofs.Ytobmpipifdielaa
open Go.RowKit
namespace Nd
mutual
/-- the same, but for Pos -/
def same : Nd → Nd → Bool
  | mk k _ n t ks, mk k' _ n' t' ks' => decide (k = k') && (decide (n = n') && (decide (t = t') && sames ks ks'))
def sames : List Nd → List Nd → Bool
  | [], [] => true
  | [], _ :: _ => false
  | _ :: _, [] => false
  | k :: ks, k' :: ks' => same k k' && sames ks ks'
end
mutual
/-- Pos, too -/
def just : Nd → Nd → Bool
  | mk k p n t ks, mk k' p' n' t' ks' => decide (p = p') && (decide (k = k') && (decide (n = n') && (decide (t = t') && justs ks ks')))
def justs : List Nd → List Nd → Bool
  | [], [] => true
  | [], _ :: _ => false
  | _ :: _, [] => false
  | k :: ks, k' :: ks' => just k k' && justs ks ks'
end
mutual
/-- with all Pos 0 -/
def strip : Nd → Nd
  | mk k _ n t ks => mk k 0 n t (strips ks)
def strips : List Nd → List Nd
  | [] => []
  | k :: ks => strip k :: strips ks
end
theorem same_eq (a b : Nd) : same a b = (decide (a.kind = b.kind) && (decide (a.num = b.num) && (decide (a.text = b.text) && sames a.kids b.kids))) := by cases a; cases b; rfl
theorem just_eq (a b : Nd) : just a b = (decide (a.pos = b.pos) && (decide (a.kind = b.kind) && (decide (a.num = b.num) && (decide (a.text = b.text) && justs a.kids b.kids)))) := by cases a; cases b; rfl
theorem same_eq2 (a b : Nd) : same a b = (decide (a.kind = b.kind) && (decide (a.text = b.text) && (decide (a.num = b.num) && sames a.kids b.kids))) := by rw [same_eq, Bool.and_left_comm (decide (a.num = b.num))]
theorem just_eq2 (a b : Nd) : just a b = (decide (a.pos = b.pos) && (decide (a.kind = b.kind) && (decide (a.text = b.text) && (decide (a.num = b.num) && justs a.kids b.kids)))) := by rw [just_eq, Bool.and_left_comm (decide (a.num = b.num))]
theorem sames_cons (k k' : Nd) (ks ks' : List Nd) : sames (k :: ks) (k' :: ks') = (same k k' && sames ks ks') := rfl
theorem justs_cons (k k' : Nd) (ks ks' : List Nd) : justs (k :: ks) (k' :: ks') = (just k k' && justs ks ks') := rfl
theorem sames_len : ∀ (l m : List Nd), sames l m = true → l.length = m.length
  | [], [], _ => rfl
  | [], _ :: _, h => by simp [sames] at h
  | _ :: _, [], h => by simp [sames] at h
  | k :: ks, k' :: ks', h => by
    rw [sames_cons, Bool.and_eq_true] at h
    simp [sames_len ks ks' h.2]
theorem justs_len : ∀ (l m : List Nd), justs l m = true → l.length = m.length
  | [], [], _ => rfl
  | [], _ :: _, h => by simp [justs] at h
  | _ :: _, [], h => by simp [justs] at h
  | k :: ks, k' :: ks', h => by
    rw [justs_cons, Bool.and_eq_true] at h
    simp [justs_len ks ks' h.2]
theorem sames_drop (l m : List Nd) (i : Nat) (h : i < l.length) (h' : i < m.length) : sames (l.drop i) (m.drop i) = (same l[i] m[i] && sames (l.drop (i + 1)) (m.drop (i + 1))) := by
  rw [List.drop_eq_getElem_cons h, List.drop_eq_getElem_cons h', sames_cons]
theorem justs_drop (l m : List Nd) (i : Nat) (h : i < l.length) (h' : i < m.length) : justs (l.drop i) (m.drop i) = (just l[i] m[i] && justs (l.drop (i + 1)) (m.drop (i + 1))) := by
  rw [List.drop_eq_getElem_cons h, List.drop_eq_getElem_cons h', justs_cons]
theorem strip_eq (t : Nd) : t.strip = mk t.kind 0 t.num t.text (strips t.kids) := by cases t; rfl
theorem strips_len : ∀ l : List Nd, (strips l).length = l.length
  | [] => rfl
  | k :: ks => by show (strips ks).length + 1 = ks.length + 1; rw [strips_len ks]
theorem strips_at : ∀ (l : List Nd) (i : Nat) (h : i < (strips l).length) (h' : i < l.length), (strips l)[i] = l[i].strip
  | k :: ks, 0, _, _ => rfl
  | k :: ks, i + 1, h, h' => by
    show (strips ks)[i]'_ = (ks[i]'_).strip
    exact strips_at ks i _ _
theorem same_strip (t : Nd) : same t t.strip = true ∧ same t.strip t = true := by
  induction t using by_size with
  | h t ih =>
    have : ∀ l : List Nd, (∀ k ∈ l, same k k.strip = true ∧ same k.strip k = true) → sames l (strips l) = true ∧ sames (strips l) l = true := fun l => by
      induction l with
      | nil => intro _; exact ⟨rfl, rfl⟩
      | cons k ks ih2 =>
        intro h
        obtain ⟨h1, h2⟩ := h k List.mem_cons_self
        obtain ⟨h3, h4⟩ := ih2 fun x hx => h x (List.mem_cons_of_mem _ hx)
        exact ⟨by show (same k k.strip && sames ks (strips ks)) = true; rw [h1, h3]; rfl, by show (same k.strip k && sames (strips ks) ks) = true; rw [h2, h4]; rfl⟩
    obtain ⟨h1, h2⟩ := this t.kids fun k hk => ih k (kid_lt hk)
    rw [same_eq, same_eq, strip_eq]
    show (decide (t.kind = t.kind) && (decide (t.num = t.num) && (decide (t.text = t.text) && sames t.kids (strips t.kids)))) = true ∧ (decide (t.kind = t.kind) && (decide (t.num = t.num) && (decide (t.text = t.text) && sames (strips t.kids) t.kids))) = true
    rw [h1, h2]
    simp
theorem just_self (t : Nd) : just t t = true := by
  induction t using by_size with
  | h t ih =>
    have : ∀ l : List Nd, (∀ k ∈ l, just k k = true) → justs l l = true := fun l => by
      induction l with
      | nil => intro _; rfl
      | cons k ks ih2 =>
        intro h
        rw [justs_cons, h k List.mem_cons_self, ih2 fun x hx => h x (List.mem_cons_of_mem _ hx)]; rfl
    rw [just_eq, this t.kids fun k hk => ih k (kid_lt hk)]
    simp
end Nd
theorem text_ne {a b : List UInt8} (h : a ≠ b) : ¬ ((⟨a.toArray⟩ : ByteArray) = ⟨b.toArray⟩) := fun e => h (by injection e with e; simpa using e)

/-- two boxes of nodes -/
theorem two_boxes (w : World) (c d : NC) : ∃ W : World, W = (w.alloc (.cells #[.int .i64 c.kind, .int .i64 c.pos, .int .i64 c.num, .string ⟨c.text.toArray⟩, .slice c.kp c.kl c.kc] 24)).alloc (.cells #[.int .i64 d.kind, .int .i64 d.pos, .int .i64 d.num, .string ⟨d.text.toArray⟩, .slice d.kp d.kl d.kc] 24) ∧
    W.heap.size = w.heap.size + 2 ∧ NBox W w.heap.size c ∧ NBox W (w.heap.size + 1) d ∧ Below w.heap.size w W := by
  have h1 := NBox.new w c 24
  have hB0 : Below w.heap.size w (w.alloc (.cells #[.int .i64 c.kind, .int .i64 c.pos, .int .i64 c.num, .string ⟨c.text.toArray⟩, .slice c.kp c.kl c.kc] 24)) := (Below.refl _ w).alloc (Nat.le_refl _) _
  obtain ⟨W1, hW1⟩ : ∃ W1, W1 = w.alloc (.cells #[.int .i64 c.kind, .int .i64 c.pos, .int .i64 c.num, .string ⟨c.text.toArray⟩, .slice c.kp c.kl c.kc] 24) := ⟨_, rfl⟩
  have hs1 : W1.heap.size = w.heap.size + 1 := by rw [hW1]; simp
  rw [← hW1] at h1 hB0
  have h2 := NBox.new W1 d 24
  have hB1 : Below W1.heap.size W1 (W1.alloc (.cells #[.int .i64 d.kind, .int .i64 d.pos, .int .i64 d.num, .string ⟨d.text.toArray⟩, .slice d.kp d.kl d.kc] 24)) := (Below.refl _ W1).alloc (Nat.le_refl _) _
  rw [hs1] at h2
  rw [← hW1]
  exact ⟨_, rfl, by simp [hs1], h1.same (hB1.block _ (by omega)), h2, hB0.trans (hB1.mono (by omega))⟩

set_option maxHeartbeats 1600000 in
theorem same_any (t : Nd) : ∀ (S S' : Nat → Prop) (u : Nd) (c d : NC) (w : World), NodeAt S w c t → NodeAt S' w d u → t.size ≤ 1000000 → Calls Try.prog 14 #[c.val, d.val] w (SaysIs (Nd.same t u) w) := by
  induction t using Nd.by_size with
  | h t ih =>
    intro S S' u c d w h h' hsz
    have HN := Lib.hid h
    have HM := Lib.hid h'
    have HLN := Lib.hid h.len
    have HLM := Lib.hid h'.len
    have HI := Lib.hid ih
    have HT := Lib.hid hsz
    have hk6 := Nd.len_le t
    have hk6 : c.kl ≤ 1000000 := by have := h.len; omega
    have hkc : c.kl ≤ c.kc := by obtain ⟨ncs, -, ⟨p, cap, e, hl, -⟩, -⟩ := h.row; injection e; omega
    have hkd : d.kl ≤ d.kc := by obtain ⟨ncs, -, ⟨p, cap, e, hl, -⟩, -⟩ := h'.row; injection e; omega
    have HQ : Hid (Nd.same t u = (decide (c.kind = d.kind) && (decide (c.num = d.num) && (decide (c.text = d.text) && Nd.sames t.kids u.kids)))) := by show _ = _; rw [Nd.same_eq, h.kind, h'.kind, h.num, h'.num, h.text, h'.text]
    obtain ⟨W, hW, hWs, hbx, hby, hBW⟩ := two_boxes w c d
    clear h h' ih hsz
    unfold NC.val
    go_enter Try.func14, Try.ntmps14
    go_upto_region 1 with fail
    rw [← hW]
    clear hW
    have HBX := Lib.hid hbx
    have HBY := Lib.hid hby
    have HBW := Lib.hid hBW
    obtain ⟨x0, x1, x2, x3, x4⟩ := hbx
    obtain ⟨y0, y1, y2, y3, y4⟩ := hby
    clear hBW
    have HL : ¬ c.kl = d.kl → Hid (Nd.sames t.kids u.kids = false) := fun e => by
      show _ = _
      cases hh : Nd.sames t.kids u.kids with
      | false => rfl
      | true => exact absurd (Nd.sames_len _ _ hh) (by rw [← HLN.out, ← HLM.out]; exact e)
    by_cases h0 : c.kind = d.kind
    case neg =>
      have HR : Hid (Nd.same t u = false) := by show _ = _; rw [HQ.out]; simp [h0]
      clear HL
      go_wp2_with fail
      try rw [Exit.noGoto_ret]
      go_ret
      exact ⟨by rw [HR.out]; rfl, HBW.out⟩
    by_cases h1 : c.num = d.num
    case neg =>
      have HR : Hid (Nd.same t u = false) := by show _ = _; rw [HQ.out]; simp [h1]
      clear HL
      go_wp2_with fail
      try rw [Exit.noGoto_ret]
      go_ret
      exact ⟨by rw [HR.out]; rfl, HBW.out⟩
    by_cases h2 : c.text = d.text
    case neg =>
      have HR : Hid (Nd.same t u = false) := by show _ = _; rw [HQ.out]; simp [h2]
      have h2 := text_ne h2
      clear HL
      go_wp2_with fail
      try rw [Exit.noGoto_ret]
      go_ret
      exact ⟨by rw [HR.out]; rfl, HBW.out⟩
    have hx2 : (⟨c.text.toArray⟩ : ByteArray) = ⟨d.text.toArray⟩ := by rw [h2]
    by_cases hl : c.kl = d.kl
    case neg =>
      have HR : Hid (Nd.same t u = false) := by show _ = _; rw [HQ.out, (HL hl).out]; simp
      clear HL
      have hl : ¬ (c.kl : Int) = (d.kl : Int) := by omega
      go_wp2_with fail
      try rw [Exit.noGoto_ret]
      go_ret
      exact ⟨by rw [HR.out]; rfl, HBW.out⟩
    have HR : Hid (Nd.same t u = Nd.sames t.kids u.kids) := by show _ = _; rw [HQ.out]; simp [h0, h1, h2]
    have hlx : (c.kl : Int) = (d.kl : Int) := by omega
    have HKL := Lib.hid hl
    clear HL HQ hl
    go_wp2_with fail
    clear h0 h1 h2 hx2
    go_loopg [37] c.kl (fun g i wx => ∃ k : Nat, k + g = c.kl ∧ i = .int .i64 (k : Int) ∧ Hid (Nd.sames (t.kids.drop k) (u.kids.drop k) = Nd.sames t.kids u.kids) ∧ Below W.heap.size W wx)
    case atStart => exact ⟨0, by omega, rfl, rfl, Below.refl _ _⟩
    case round =>
      obtain ⟨k, hkg, rfl, HA, hB⟩ := hrel
      obtain ⟨x0, x1, x2, x3, x4⟩ := HBX.out.same (hB.block w.heap.size (by omega))
      obtain ⟨y0, y1, y2, y3, y4⟩ := HBY.out.same (hB.block (w.heap.size + 1) (by omega))
      cases gk with
      | zero =>
        obtain rfl : k = c.kl := by omega
        have HF : Hid (Nd.same t u = true) := by
          show _ = _
          rw [HR.out, ← HA.out, List.drop_eq_nil_of_le (by rw [HLN.out]; exact Nat.le_refl _), List.drop_eq_nil_of_le (by rw [HKL.out, HLM.out]; exact Nat.le_refl _)]
          rfl
        go_wp2_with fail
        try rw [Exit.noGoto_ret]
        go_ret
        exact ⟨by rw [HF.out]; rfl, HBW.out.trans (hB.mono (by omega))⟩
      | succ g =>
        have hlt : k < c.kl := by omega
        have hlt' : (k : Int) < c.kl := by omega
        have hkt : k < t.kids.length := by rw [← HLN.out]; exact hlt
        have hku : k < u.kids.length := by rw [← HLM.out, ← HKL.out]; exact hlt
        have hltd : (k : Int) < d.kl := by omega
        have HX : Hid (Nd.same t u = (Nd.same t.kids[k] u.kids[k] && Nd.sames (t.kids.drop (k + 1)) (u.kids.drop (k + 1)))) := by
          show _ = _
          rw [HR.out, ← HA.out, Nd.sames_drop _ _ k hkt hku]
        obtain ⟨kc, g1, o1, hp1, -, hg1, -, -, hK1, hcell1⟩ := HN.out.kid k hkt
        obtain ⟨kd, g2, o2, hp2, -, hg2, -, -, hK2, hcell2⟩ := HM.out.kid k hku
        have hBw : Below w.heap.size w wr.drew := (HBW.out.trans (hB.mono (by omega))).trans (below_drew _ _)
        have HC := HI.out _ (Nd.kid_at hkt) S S' u.kids[k] kc kd wr.drew (hK1.later hBw) (hK2.later hBw) (by have := Nd.kid_at hkt; have := HT.out; omega)
        obtain ⟨p0, p1, p2, p3, p4⟩ := hcell1 wr (hBw.block _ hg1)
        obtain ⟨q0, q1, q2, q3, q4⟩ := hcell2 wr (hBw.block _ hg2)
        rw [hp1] at x4
        rw [hp2] at y4
        have HBw := Lib.hid hBw
        clear hp1 hp2 hcell1 hcell2 hK1 hK2 hBw
        unfold NC.val at HC
        go_wp2_with fail
        go_still_tail 10, (by kernel_rfl)
        go_wp2_with fail
        by_cases hs : Nd.same t.kids[k] u.kids[k] = true
        · have HX2 : Hid (Nd.sames (t.kids.drop (k + 1)) (u.kids.drop (k + 1)) = Nd.sames t.kids u.kids) := by
            show _ = _
            have := HX.out
            rw [hs, Bool.true_and, HR.out] at this
            exact this.symm
          rw [hs] at HC
          refine HC.mono ?_; rintro e w2 ⟨rfl, hB3⟩
          clear HC hs
          go_wp2_with fail
          go_roundg g
          case measure => omega
          case rel => exact ⟨k + 1, by omega, by go_num, HX2, (hB.trans (below_drew _ _)).trans (hB3.mono hB.size)⟩
        · have hs : Nd.same t.kids[k] u.kids[k] = false := by simpa using hs
          have HX2 : Hid (Nd.same t u = false) := by
            show _ = _
            rw [HX.out, hs]; rfl
          rw [hs] at HC
          refine HC.mono ?_; rintro e w2 ⟨rfl, hB3⟩
          clear HC hs
          go_wp2_with fail
          try rw [Exit.noGoto_ret]
          go_ret
          exact ⟨by rw [HX2.out]; rfl, HBw.out.trans (hB3.mono HBw.out.size)⟩

set_option maxHeartbeats 1600000 in
theorem refsame_any (t : Nd) : ∀ (S S' : Nat → Prop) (u : Nd) (c d : NC) (w : World), NodeAt S w c t → NodeAt S' w d u → t.size ≤ 1000000 → Calls Try.prog 15 #[c.val, d.val] w (SaysIs (Nd.same t u) w) := by
  induction t using Nd.by_size with
  | h t ih =>
    intro S S' u c d w h h' hsz
    have HN := Lib.hid h
    have HM := Lib.hid h'
    have HLN := Lib.hid h.len
    have HLM := Lib.hid h'.len
    have HI := Lib.hid ih
    have HT := Lib.hid hsz
    have hk6 := Nd.len_le t
    have hk6 : c.kl ≤ 1000000 := by have := h.len; omega
    have hkc : c.kl ≤ c.kc := by obtain ⟨ncs, -, ⟨p, cap, e, hl, -⟩, -⟩ := h.row; injection e; omega
    have hkd : d.kl ≤ d.kc := by obtain ⟨ncs, -, ⟨p, cap, e, hl, -⟩, -⟩ := h'.row; injection e; omega
    have HQ : Hid (Nd.same t u = (decide (c.kind = d.kind) && (decide (c.text = d.text) && (decide (c.num = d.num) && Nd.sames t.kids u.kids)))) := by show _ = _; rw [Nd.same_eq2, h.kind, h'.kind, h.text, h'.text, h.num, h'.num]
    obtain ⟨W, hW, hWs, hbx, hby, hBW⟩ := two_boxes w c d
    clear h h' ih hsz
    unfold NC.val
    go_enter Try.func15, Try.ntmps15
    go_upto_region 1 with fail
    rw [← hW]
    clear hW
    have HBX := Lib.hid hbx
    have HBY := Lib.hid hby
    have HBW := Lib.hid hBW
    obtain ⟨x0, x1, x2, x3, x4⟩ := hbx
    obtain ⟨y0, y1, y2, y3, y4⟩ := hby
    clear hBW
    have HL : ¬ c.kl = d.kl → Hid (Nd.sames t.kids u.kids = false) := fun e => by
      show _ = _
      cases hh : Nd.sames t.kids u.kids with
      | false => rfl
      | true => exact absurd (Nd.sames_len _ _ hh) (by rw [← HLN.out, ← HLM.out]; exact e)
    by_cases h0 : c.kind = d.kind
    case neg =>
      have HR : Hid (Nd.same t u = false) := by show _ = _; rw [HQ.out]; simp [h0]
      clear HL
      go_wp2_with fail
      try rw [Exit.noGoto_ret]
      go_ret
      exact ⟨by rw [HR.out]; rfl, HBW.out⟩
    by_cases h1 : c.text = d.text
    case neg =>
      have HR : Hid (Nd.same t u = false) := by show _ = _; rw [HQ.out]; simp [h1]
      have h1 := text_ne h1
      clear HL
      go_wp2_with fail
      try rw [Exit.noGoto_ret]
      go_ret
      exact ⟨by rw [HR.out]; rfl, HBW.out⟩
    have hx1 : (⟨c.text.toArray⟩ : ByteArray) = ⟨d.text.toArray⟩ := by rw [h1]
    by_cases h2 : c.num = d.num
    case neg =>
      have HR : Hid (Nd.same t u = false) := by show _ = _; rw [HQ.out]; simp [h2]
      clear HL
      go_wp2_with fail
      try rw [Exit.noGoto_ret]
      go_ret
      exact ⟨by rw [HR.out]; rfl, HBW.out⟩
    by_cases hl : c.kl = d.kl
    case neg =>
      have HR : Hid (Nd.same t u = false) := by show _ = _; rw [HQ.out, (HL hl).out]; simp
      clear HL
      have hl : ¬ (c.kl : Int) = (d.kl : Int) := by omega
      go_wp2_with fail
      try rw [Exit.noGoto_ret]
      go_ret
      exact ⟨by rw [HR.out]; rfl, HBW.out⟩
    have HR : Hid (Nd.same t u = Nd.sames t.kids u.kids) := by show _ = _; rw [HQ.out]; simp [h0, h1, h2]
    have hlx : (c.kl : Int) = (d.kl : Int) := by omega
    have HKL := Lib.hid hl
    clear HL HQ hl
    go_wp2_with fail
    clear h0 h1 h2 hx1
    go_loopg [5] c.kl (fun g i wx => ∃ k : Nat, k + g = c.kl ∧ i = .int .i64 (k : Int) ∧ Hid (Nd.sames (t.kids.drop k) (u.kids.drop k) = Nd.sames t.kids u.kids) ∧ Below W.heap.size W wx)
    case atStart => exact ⟨0, by omega, rfl, rfl, Below.refl _ _⟩
    case round =>
      obtain ⟨k, hkg, rfl, HA, hB⟩ := hrel
      obtain ⟨x0, x1, x2, x3, x4⟩ := HBX.out.same (hB.block w.heap.size (by omega))
      obtain ⟨y0, y1, y2, y3, y4⟩ := HBY.out.same (hB.block (w.heap.size + 1) (by omega))
      cases gk with
      | zero =>
        obtain rfl : k = c.kl := by omega
        have HF : Hid (Nd.same t u = true) := by
          show _ = _
          rw [HR.out, ← HA.out, List.drop_eq_nil_of_le (by rw [HLN.out]; exact Nat.le_refl _), List.drop_eq_nil_of_le (by rw [HKL.out, HLM.out]; exact Nat.le_refl _)]
          rfl
        go_wp2_with fail
        try rw [Exit.noGoto_ret]
        go_ret
        exact ⟨by rw [HF.out]; rfl, HBW.out.trans (hB.mono (by omega))⟩
      | succ g =>
        have hlt : k < c.kl := by omega
        have hlt' : (k : Int) < c.kl := by omega
        have hkt : k < t.kids.length := by rw [← HLN.out]; exact hlt
        have hku : k < u.kids.length := by rw [← HLM.out, ← HKL.out]; exact hlt
        have hltd : (k : Int) < d.kl := by omega
        have HX : Hid (Nd.same t u = (Nd.same t.kids[k] u.kids[k] && Nd.sames (t.kids.drop (k + 1)) (u.kids.drop (k + 1)))) := by
          show _ = _
          rw [HR.out, ← HA.out, Nd.sames_drop _ _ k hkt hku]
        obtain ⟨kc, g1, o1, hp1, -, hg1, -, -, hK1, hcell1⟩ := HN.out.kid k hkt
        obtain ⟨kd, g2, o2, hp2, -, hg2, -, -, hK2, hcell2⟩ := HM.out.kid k hku
        have hBw : Below w.heap.size w wr.drew := (HBW.out.trans (hB.mono (by omega))).trans (below_drew _ _)
        have HC := HI.out _ (Nd.kid_at hkt) S S' u.kids[k] kc kd wr.drew (hK1.later hBw) (hK2.later hBw) (by have := Nd.kid_at hkt; have := HT.out; omega)
        obtain ⟨p0, p1, p2, p3, p4⟩ := hcell1 wr (hBw.block _ hg1)
        obtain ⟨q0, q1, q2, q3, q4⟩ := hcell2 wr (hBw.block _ hg2)
        rw [hp1] at x4
        rw [hp2] at y4
        have HBw := Lib.hid hBw
        clear hp1 hp2 hcell1 hcell2 hK1 hK2 hBw
        unfold NC.val at HC
        go_wp2_with fail
        go_still_tail 10, (by kernel_rfl)
        go_wp2_with fail
        by_cases hs : Nd.same t.kids[k] u.kids[k] = true
        · have HX2 : Hid (Nd.sames (t.kids.drop (k + 1)) (u.kids.drop (k + 1)) = Nd.sames t.kids u.kids) := by
            show _ = _
            have := HX.out
            rw [hs, Bool.true_and, HR.out] at this
            exact this.symm
          rw [hs] at HC
          refine HC.mono ?_; rintro e w2 ⟨rfl, hB3⟩
          clear HC hs
          go_wp2_with fail
          go_roundg g
          case measure => omega
          case rel => exact ⟨k + 1, by omega, by go_num, HX2, (hB.trans (below_drew _ _)).trans (hB3.mono hB.size)⟩
        · have hs : Nd.same t.kids[k] u.kids[k] = false := by simpa using hs
          have HX2 : Hid (Nd.same t u = false) := by
            show _ = _
            rw [HX.out, hs]; rfl
          rw [hs] at HC
          refine HC.mono ?_; rintro e w2 ⟨rfl, hB3⟩
          clear HC hs
          go_wp2_with fail
          try rw [Exit.noGoto_ret]
          go_ret
          exact ⟨by rw [HX2.out]; rfl, HBw.out.trans (hB3.mono HBw.out.size)⟩

set_option maxHeartbeats 1600000 in
theorem just_any (t : Nd) : ∀ (S S' : Nat → Prop) (u : Nd) (c d : NC) (w : World), NodeAt S w c t → NodeAt S' w d u → t.size ≤ 1000000 → Calls Try.prog 16 #[c.val, d.val] w (SaysIs (Nd.just t u) w) := by
  induction t using Nd.by_size with
  | h t ih =>
    intro S S' u c d w h h' hsz
    have HN := Lib.hid h
    have HM := Lib.hid h'
    have HLN := Lib.hid h.len
    have HLM := Lib.hid h'.len
    have HI := Lib.hid ih
    have HT := Lib.hid hsz
    have hk6 := Nd.len_le t
    have hk6 : c.kl ≤ 1000000 := by have := h.len; omega
    have hkc : c.kl ≤ c.kc := by obtain ⟨ncs, -, ⟨p, cap, e, hl, -⟩, -⟩ := h.row; injection e; omega
    have hkd : d.kl ≤ d.kc := by obtain ⟨ncs, -, ⟨p, cap, e, hl, -⟩, -⟩ := h'.row; injection e; omega
    have HQ : Hid (Nd.just t u = (decide (c.pos = d.pos) && (decide (c.kind = d.kind) && (decide (c.text = d.text) && (decide (c.num = d.num) && Nd.justs t.kids u.kids))))) := by show _ = _; rw [Nd.just_eq2, h.pos, h'.pos, h.kind, h'.kind, h.text, h'.text, h.num, h'.num]
    obtain ⟨W, hW, hWs, hbx, hby, hBW⟩ := two_boxes w c d
    clear h h' ih hsz
    unfold NC.val
    go_enter Try.func16, Try.ntmps16
    go_upto_region 1 with fail
    rw [← hW]
    clear hW
    have HBX := Lib.hid hbx
    have HBY := Lib.hid hby
    have HBW := Lib.hid hBW
    obtain ⟨x0, x1, x2, x3, x4⟩ := hbx
    obtain ⟨y0, y1, y2, y3, y4⟩ := hby
    clear hBW
    have HL : ¬ c.kl = d.kl → Hid (Nd.justs t.kids u.kids = false) := fun e => by
      show _ = _
      cases hh : Nd.justs t.kids u.kids with
      | false => rfl
      | true => exact absurd (Nd.justs_len _ _ hh) (by rw [← HLN.out, ← HLM.out]; exact e)
    by_cases h0 : c.pos = d.pos
    case neg =>
      have HR : Hid (Nd.just t u = false) := by show _ = _; rw [HQ.out]; simp [h0]
      clear HL
      go_wp2_with fail
      try rw [Exit.noGoto_ret]
      go_ret
      exact ⟨by rw [HR.out]; rfl, HBW.out⟩
    by_cases h1 : c.kind = d.kind
    case neg =>
      have HR : Hid (Nd.just t u = false) := by show _ = _; rw [HQ.out]; simp [h1]
      clear HL
      go_wp2_with fail
      try rw [Exit.noGoto_ret]
      go_ret
      exact ⟨by rw [HR.out]; rfl, HBW.out⟩
    by_cases h2 : c.text = d.text
    case neg =>
      have HR : Hid (Nd.just t u = false) := by show _ = _; rw [HQ.out]; simp [h2]
      have h2 := text_ne h2
      clear HL
      go_wp2_with fail
      try rw [Exit.noGoto_ret]
      go_ret
      exact ⟨by rw [HR.out]; rfl, HBW.out⟩
    have hx2 : (⟨c.text.toArray⟩ : ByteArray) = ⟨d.text.toArray⟩ := by rw [h2]
    by_cases h3 : c.num = d.num
    case neg =>
      have HR : Hid (Nd.just t u = false) := by show _ = _; rw [HQ.out]; simp [h3]
      clear HL
      go_wp2_with fail
      try rw [Exit.noGoto_ret]
      go_ret
      exact ⟨by rw [HR.out]; rfl, HBW.out⟩
    by_cases hl : c.kl = d.kl
    case neg =>
      have HR : Hid (Nd.just t u = false) := by show _ = _; rw [HQ.out, (HL hl).out]; simp
      clear HL
      have hl : ¬ (c.kl : Int) = (d.kl : Int) := by omega
      go_wp2_with fail
      try rw [Exit.noGoto_ret]
      go_ret
      exact ⟨by rw [HR.out]; rfl, HBW.out⟩
    have HR : Hid (Nd.just t u = Nd.justs t.kids u.kids) := by show _ = _; rw [HQ.out]; simp [h0, h1, h2, h3]
    have hlx : (c.kl : Int) = (d.kl : Int) := by omega
    have HKL := Lib.hid hl
    clear HL HQ hl
    go_wp2_with fail
    clear h0 h1 h2 h3 hx2
    go_loopg [5] c.kl (fun g i wx => ∃ k : Nat, k + g = c.kl ∧ i = .int .i64 (k : Int) ∧ Hid (Nd.justs (t.kids.drop k) (u.kids.drop k) = Nd.justs t.kids u.kids) ∧ Below W.heap.size W wx)
    case atStart => exact ⟨0, by omega, rfl, rfl, Below.refl _ _⟩
    case round =>
      obtain ⟨k, hkg, rfl, HA, hB⟩ := hrel
      obtain ⟨x0, x1, x2, x3, x4⟩ := HBX.out.same (hB.block w.heap.size (by omega))
      obtain ⟨y0, y1, y2, y3, y4⟩ := HBY.out.same (hB.block (w.heap.size + 1) (by omega))
      cases gk with
      | zero =>
        obtain rfl : k = c.kl := by omega
        have HF : Hid (Nd.just t u = true) := by
          show _ = _
          rw [HR.out, ← HA.out, List.drop_eq_nil_of_le (by rw [HLN.out]; exact Nat.le_refl _), List.drop_eq_nil_of_le (by rw [HKL.out, HLM.out]; exact Nat.le_refl _)]
          rfl
        go_wp2_with fail
        try rw [Exit.noGoto_ret]
        go_ret
        exact ⟨by rw [HF.out]; rfl, HBW.out.trans (hB.mono (by omega))⟩
      | succ g =>
        have hlt : k < c.kl := by omega
        have hlt' : (k : Int) < c.kl := by omega
        have hkt : k < t.kids.length := by rw [← HLN.out]; exact hlt
        have hku : k < u.kids.length := by rw [← HLM.out, ← HKL.out]; exact hlt
        have hltd : (k : Int) < d.kl := by omega
        have HX : Hid (Nd.just t u = (Nd.just t.kids[k] u.kids[k] && Nd.justs (t.kids.drop (k + 1)) (u.kids.drop (k + 1)))) := by
          show _ = _
          rw [HR.out, ← HA.out, Nd.justs_drop _ _ k hkt hku]
        obtain ⟨kc, g1, o1, hp1, -, hg1, -, -, hK1, hcell1⟩ := HN.out.kid k hkt
        obtain ⟨kd, g2, o2, hp2, -, hg2, -, -, hK2, hcell2⟩ := HM.out.kid k hku
        have hBw : Below w.heap.size w wr.drew := (HBW.out.trans (hB.mono (by omega))).trans (below_drew _ _)
        have HC := HI.out _ (Nd.kid_at hkt) S S' u.kids[k] kc kd wr.drew (hK1.later hBw) (hK2.later hBw) (by have := Nd.kid_at hkt; have := HT.out; omega)
        obtain ⟨p0, p1, p2, p3, p4⟩ := hcell1 wr (hBw.block _ hg1)
        obtain ⟨q0, q1, q2, q3, q4⟩ := hcell2 wr (hBw.block _ hg2)
        rw [hp1] at x4
        rw [hp2] at y4
        have HBw := Lib.hid hBw
        clear hp1 hp2 hcell1 hcell2 hK1 hK2 hBw
        unfold NC.val at HC
        go_wp2_with fail
        go_still_tail 10, (by kernel_rfl)
        go_wp2_with fail
        by_cases hs : Nd.just t.kids[k] u.kids[k] = true
        · have HX2 : Hid (Nd.justs (t.kids.drop (k + 1)) (u.kids.drop (k + 1)) = Nd.justs t.kids u.kids) := by
            show _ = _
            have := HX.out
            rw [hs, Bool.true_and, HR.out] at this
            exact this.symm
          rw [hs] at HC
          refine HC.mono ?_; rintro e w2 ⟨rfl, hB3⟩
          clear HC hs
          go_wp2_with fail
          go_roundg g
          case measure => omega
          case rel => exact ⟨k + 1, by omega, by go_num, HX2, (hB.trans (below_drew _ _)).trans (hB3.mono hB.size)⟩
        · have hs : Nd.just t.kids[k] u.kids[k] = false := by simpa using hs
          have HX2 : Hid (Nd.just t u = false) := by
            show _ = _
            rw [HX.out, hs]; rfl
          rw [hs] at HC
          refine HC.mono ?_; rintro e w2 ⟨rfl, hB3⟩
          clear HC hs
          go_wp2_with fail
          try rw [Exit.noGoto_ret]
          go_ret
          exact ⟨by rw [HX2.out]; rfl, HBw.out.trans (hB3.mono HBw.out.size)⟩
end Go.Proofs.Ytobmpipifdielaa
