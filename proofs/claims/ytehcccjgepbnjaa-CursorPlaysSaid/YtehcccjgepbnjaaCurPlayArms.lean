/- The ten arms of the law CursorPlays' round, each a theorem of its own. -/
import Derived.Test.YtehcccjgepbnjaaCurPlaySt
import Derived.Deep.DeepCutAuto
import Derived.Deep.CutBlock
import Derived.Deep.CutRange
import Derived.Deep.RegionHeld3
namespace Go.Proofs.Ytehcccjgepbnjaa
open Go.RowKit
attribute [local go_sem] fld0 fld1

theorem kinds10 (k : Int) : ((k == 0) = true) ∨ ((k == 0) = false ∧ (k == 1) = true) ∨ ((k == 0) = false ∧ (k == 1) = false ∧ (k == 2) = true) ∨ ((k == 0) = false ∧ (k == 1) = false ∧ (k == 2) = false ∧ (k == 3) = true) ∨
    ((k == 0) = false ∧ (k == 1) = false ∧ (k == 2) = false ∧ (k == 3) = false ∧ (k == 4) = true) ∨ ((k == 0) = false ∧ (k == 1) = false ∧ (k == 2) = false ∧ (k == 3) = false ∧ (k == 4) = false ∧ (k == 5) = true) ∨
    ((k == 0) = false ∧ (k == 1) = false ∧ (k == 2) = false ∧ (k == 3) = false ∧ (k == 4) = false ∧ (k == 5) = false ∧ (k == 6) = true) ∨ ((k == 0) = false ∧ (k == 1) = false ∧ (k == 2) = false ∧ (k == 3) = false ∧ (k == 4) = false ∧ (k == 5) = false ∧ (k == 6) = false ∧ (k == 7) = true) ∨
    ((k == 0) = false ∧ (k == 1) = false ∧ (k == 2) = false ∧ (k == 3) = false ∧ (k == 4) = false ∧ (k == 5) = false ∧ (k == 6) = false ∧ (k == 7) = false ∧ (k == 8) = true) ∨
    ((k == 0) = false ∧ (k == 1) = false ∧ (k == 2) = false ∧ (k == 3) = false ∧ (k == 4) = false ∧ (k == 5) = false ∧ (k == 6) = false ∧ (k == 7) = false ∧ (k == 8) = false) := by
  by_cases h0 : k = 0
  · exact .inl (by simp [h0])
  by_cases h1 : k = 1
  · exact .inr (.inl (by simp [h1]))
  by_cases h2 : k = 2
  · exact .inr (.inr (.inl (by simp [h2])))
  by_cases h3 : k = 3
  · exact .inr (.inr (.inr (.inl (by simp [h3]))))
  by_cases h4 : k = 4
  · exact .inr (.inr (.inr (.inr (.inl (by simp [h4])))))
  by_cases h5 : k = 5
  · exact .inr (.inr (.inr (.inr (.inr (.inl (by simp [h5]))))))
  by_cases h6 : k = 6
  · exact .inr (.inr (.inr (.inr (.inr (.inr (.inl (by simp [h6])))))))
  by_cases h7 : k = 7
  · exact .inr (.inr (.inr (.inr (.inr (.inr (.inr (.inl (by simp [h7]))))))))
  by_cases h8 : k = 8
  · exact .inr (.inr (.inr (.inr (.inr (.inr (.inr (.inr (.inl (by simp [h8])))))))))
  · exact .inr (.inr (.inr (.inr (.inr (.inr (.inr (.inr (.inr (by simp [h0, h1, h2, h3, h4, h5, h6, h7, h8])))))))))

/-- a block's code, by its number -/
def blockOf (n : Nat) : Code → Option Code
  | .block k c => if k = n then some (.block k c) else blockOf n c
  | .seq a b => match blockOf n a with
    | some c => some c
    | none => blockOf n b
  | .loop c => blockOf n c
  | .scope c => blockOf n c
  | .cond _ a b => match blockOf n a with
    | some c => some c
    | none => blockOf n b
  | _ => none
noncomputable def switchC : Code := (Try.f3.body.bind (blockOf 2)).getD .skip

set_option maxRecDepth 100000 in
set_option maxHeartbeats 8000000 in
theorem arm0 {w : World} {B X D : Nat} {v1 : Value} {d : Dd} {c : Cu} {a1 : Option Addr} {ln1 cap1 : Nat} {W : World} {s0 s1 s2 s3 s4 s7 s10 s11 s12 s13 s14 s15 s16 s17 s18 s19 s20 s21 s22 s23 s24 s25 s26 s27 s28 s29 s30 s31 s32 s33 s34 s35 s36 s37 s38 s39 s40 s41 s42 s43 s44 s45 s46 s48 s49 s50 s51 s52 s53 s54 s55 s56 s57 s58 s59 s60 s61 s62 s63 s64 s65 s66 s67 s68 s69 s70 s71 s72 s73 s74 s75 s76 s77 s78 s79 s80 s81 s82 s83 s84 s85 s86 s87 s88 s89 s90 s91 s92 s93 s94 s95 s96 s97 s98 s99 s100 s101 s102 s103 s104 s105 s106 s107 s108 s109 s110 s111 s112 s113 s114 s115 s116 s117 s118 s119 s120 s121 s122 s123 s124 s125 s126 s127 s128 s129 s130 s131 s132 s133 s134 s135 s136 s137 s138 s139 s140 s141 s142 s143 s144 s145 s146 s147 s148 s149 s150 s151 s152 s153 s154 s155 s156 s157 s158 s159 s160 s161 s162 s163 s164 s165 s166 s167 s168 s169 s170 s171 s172 s173 s174 s175 s176 s177 s178 s179 s180 s181 s182 s183 s184 s185 s186 s187 s188 s189 s190 s191 s192 s193 s194 s195 s196 s197 s198 : Value}
    (hP : Pl w B B X D v1 d c c a1 ln1 cap1 W) (hk : ((d.kind == 0) = true)) (Q' : Exit → Act → World → Prop) (J K' : Act → World → Prop)
    (hJ : ∀ a' wx, (∃ u8 u10 u11 u12 u13 u14 u15 u16 u17 u18 u19 u20 u21 u22 u36 u37 u38 u39 u40 u41 u42 u43 u44 u45 u46 u48 u49 u50 u51 u52 u53 u54 u55 u56 u57 u58 u59 u60 u61 u62 u63 u64 u65 u66 u67 u68 u69 u70 u71 u72 u73 u74 u75 u76 u77 u78 u79 u80 u81 u82 u83 u84 u85 u86 u87 u88 u89 u90 u91 u92 u93 u94 u95 u96 u97 u98 u99 u100 u101 u102 u103 u104 u105 u106 u107 u108 u109 u110 u111 u112 u113 u114 u115 u116 u117 u118 u119 u120 u121 u122 u123 u124 u125 u126 u127 u128 u129 u130 u131 u132 u133 u134 u135 u136 u137 u138 u139 u140 u141 u142 u143 u144 u145 u146 u147 u148 u149 u150 u151 u152 u153 u154 u155 u156 u157 u158 u159 u160 u161 u162 u163 u164 u165 u166 u167 u168 u169 u170 u171 u172 u173 u174 u175 u176 u177 u178 u179 u180 u181 u182 u183 u184 u185 u186 u187 u188 u189 u190 u191 u192 u193 u194 u195 u196 u197 : Value, (u8 = .bool true ∧ ∃ (c' : Cu) (a' : Option Addr) (ln' cap' : Nat), Hid (St w B B X v1 c' c' a' ln' cap' wx)) ∧ a' = ⟨#[s0, s1, s2, s3, s4, .pointer (some ⟨B, 0, none⟩), .pointer (some ⟨X, 0, none⟩), s7, u8, .pointer (some ⟨D, 0, none⟩), u10, u11, u12, u13, u14, u15, u16, u17, u18, u19, u20, u21, u22, s23, s24, s25, s26, s27, s28, s29, s30, s31, s32, s33, s34, s35, u36, u37, u38, u39, u40, u41, u42, u43, u44, u45, u46, .int .i64 d.kind, u48, u49, u50, u51, u52, u53, u54, u55, u56, u57, u58, u59, u60, u61, u62, u63, u64, u65, u66, u67, u68, u69, u70, u71, u72, u73, u74, u75, u76, u77, u78, u79, u80, u81, u82, u83, u84, u85, u86, u87, u88, u89, u90, u91, u92, u93, u94, u95, u96, u97, u98, u99, u100, u101, u102, u103, u104, u105, u106, u107, u108, u109, u110, u111, u112, u113, u114, u115, u116, u117, u118, u119, u120, u121, u122, u123, u124, u125, u126, u127, u128, u129, u130, u131, u132, u133, u134, u135, u136, u137, u138, u139, u140, u141, u142, u143, u144, u145, u146, u147, u148, u149, u150, u151, u152, u153, u154, u155, u156, u157, u158, u159, u160, u161, u162, u163, u164, u165, u166, u167, u168, u169, u170, u171, u172, u173, u174, u175, u176, u177, u178, u179, u180, u181, u182, u183, u184, u185, u186, u187, u188, u189, u190, u191, u192, u193, u194, u195, u196, u197, s198], []⟩) → J a' wx) (hK : ∀ a' w', Met J a' w' → K' a' w') :
    Code.wp Try.prog switchC (Exit.then K' Q') ⟨#[s0, s1, s2, s3, s4, .pointer (some ⟨B, 0, none⟩), .pointer (some ⟨X, 0, none⟩), s7, .bool true, .pointer (some ⟨D, 0, none⟩), s10, s11, s12, s13, s14, s15, s16, s17, s18, s19, s20, s21, s22, s23, s24, s25, s26, s27, s28, s29, s30, s31, s32, s33, s34, s35, s36, s37, s38, s39, s40, s41, s42, s43, s44, s45, s46, .int .i64 d.kind, s48, s49, s50, s51, s52, s53, s54, s55, s56, s57, s58, s59, s60, s61, s62, s63, s64, s65, s66, s67, s68, s69, s70, s71, s72, s73, s74, s75, s76, s77, s78, s79, s80, s81, s82, s83, s84, s85, s86, s87, s88, s89, s90, s91, s92, s93, s94, s95, s96, s97, s98, s99, s100, s101, s102, s103, s104, s105, s106, s107, s108, s109, s110, s111, s112, s113, s114, s115, s116, s117, s118, s119, s120, s121, s122, s123, s124, s125, s126, s127, s128, s129, s130, s131, s132, s133, s134, s135, s136, s137, s138, s139, s140, s141, s142, s143, s144, s145, s146, s147, s148, s149, s150, s151, s152, s153, s154, s155, s156, s157, s158, s159, s160, s161, s162, s163, s164, s165, s166, s167, s168, s169, s170, s171, s172, s173, s174, s175, s176, s177, s178, s179, s180, s181, s182, s183, s184, s185, s186, s187, s188, s189, s190, s191, s192, s193, s194, s195, s196, s197, s198], []⟩ W := by
  conv => arg 2; whnf
  have k0 := hk
  obtain ⟨⟨y0, y1, y2, y3, y4, y5, y6, y7⟩, -⟩ := cells8 hP.st.blk
  obtain ⟨z0, z1, z2⟩ := hP.deed
  have HR := refnext_any ⟨_, rfl, hP.st.row⟩ hP.st.size
  have hws := adv_ws c
  have HT := fun (V : World) (hc : CurAt V B v1 c) => next_any hc
  have hv : (c.peek).val = .agg #[.int .i64 (c.peek).kind, .int .i64 (c.peek).pos, .int .i64 (c.peek).num, .string ⟨(c.peek).text.toArray⟩] := rfl
  rw [hv] at HR HT
  clear hv
  generalize c.peek = t at *
  generalize c.adv = c' at *
  go_wp2_with fail
  refine HR.mono ?_; rintro e w5 ⟨x', rfl, hx, hB⟩
  obtain ⟨a2, ln2, cap2, rfl, hr, -⟩ := hx.shape
  have hP := hP.below hB
  clear HR hB hx y0 y1 y2 y3 y4 y5 y6 y7 z0 z1 z2
  have hTB : w5.heap.size + 1 ≠ B := by have := hP.st.cur.lt; omega
  have hTX : w5.heap.size + 1 ≠ X := by have := (Array.getElem?_eq_some_iff.1 hP.st.blk).1; omega
  have hbx : Below w5.heap.size w5 ((w5.alloc (.cells #[.slice a2 ln2 cap2, .int .i64 0, .int .i64 c'.ep, .int .i64 0, .string ⟨#[]⟩, .int .i64 (c'.nest : Int), .int .i64 c'.err, .int .i64 c'.pos] 31)).alloc (.cells #[.int .i64 t.kind, .int .i64 t.pos, .int .i64 t.num, .string ⟨t.text.toArray⟩] 29)) := ((Below.refl _ w5).alloc (Nat.le_refl _) _).alloc (by simp) _
  have hr := hr.out.below (hbx.mono hP.st.size)
  have hP := hP.below hbx
  have hY : ((w5.alloc (.cells #[.slice a2 ln2 cap2, .int .i64 0, .int .i64 c'.ep, .int .i64 0, .string ⟨#[]⟩, .int .i64 (c'.nest : Int), .int .i64 c'.err, .int .i64 c'.pos] 31)).alloc (.cells #[.int .i64 t.kind, .int .i64 t.pos, .int .i64 t.num, .string ⟨t.text.toArray⟩] 29)).heap[w5.heap.size]? = some (.cells #[.slice a2 ln2 cap2, .int .i64 0, .int .i64 c'.ep, .int .i64 0, .string ⟨#[]⟩, .int .i64 (c'.nest : Int), .int .i64 c'.err, .int .i64 c'.pos] 31 (0, 0)) := by
    exact (((Below.refl _ (w5.alloc (.cells #[.slice a2 ln2 cap2, .int .i64 0, .int .i64 c'.ep, .int .i64 0, .string ⟨#[]⟩, .int .i64 (c'.nest : Int), .int .i64 c'.err, .int .i64 c'.pos] 31))).alloc (Nat.le_refl _) _).block _ (by simp)).trans (World.alloc_heap_new w5 _)
  have hTb : ((w5.alloc (.cells #[.slice a2 ln2 cap2, .int .i64 0, .int .i64 c'.ep, .int .i64 0, .string ⟨#[]⟩, .int .i64 (c'.nest : Int), .int .i64 c'.err, .int .i64 c'.pos] 31)).alloc (.cells #[.int .i64 t.kind, .int .i64 t.pos, .int .i64 t.num, .string ⟨t.text.toArray⟩] 29)).heap[w5.heap.size + 1]? = some (.cells #[.int .i64 t.kind, .int .i64 t.pos, .int .i64 t.num, .string ⟨t.text.toArray⟩] 29 (0, 0)) := by
    have := World.alloc_heap_new (w5.alloc (.cells #[.slice a2 ln2 cap2, .int .i64 0, .int .i64 c'.ep, .int .i64 0, .string ⟨#[]⟩, .int .i64 (c'.nest : Int), .int .i64 c'.err, .int .i64 c'.pos] 31)) (.cells #[.int .i64 t.kind, .int .i64 t.pos, .int .i64 t.num, .string ⟨t.text.toArray⟩] 29)
    rwa [World.size_alloc] at this
  clear hbx
  go_upto_region 12 with fail
  generalize ((w5.alloc (.cells #[.slice a2 ln2 cap2, .int .i64 0, .int .i64 c'.ep, .int .i64 0, .string ⟨#[]⟩, .int .i64 (c'.nest : Int), .int .i64 c'.err, .int .i64 c'.pos] 31)).alloc (.cells #[.int .i64 t.kind, .int .i64 t.pos, .int .i64 t.num, .string ⟨t.text.toArray⟩] 29)) = W5 at *
  generalize w5.heap.size + 1 = T at *
  generalize w5.heap.size = Y at *
  obtain ⟨⟨x0, x1, x2, x3, x4, x5, x6, x7⟩, -⟩ := cells8 hY
  obtain ⟨⟨y0, y1, y2, y3, y4, y5, y6, y7⟩, t0, t1, t2, t3, t4, t5, t6, t7⟩ := cells8 hP.st.blk
  have hP := hP.store hr
  have hTb := (putC_far W5 X T (.slice a2 ln2 cap2) (.int .i64 c'.ep) (.int .i64 (c'.nest : Int)) (.int .i64 c'.err) (.int .i64 c'.pos) hTX).trans hTb
  have hTb : Hid _ := hTb
  clear hr hY hTX
  go_upto_region 13 with fail
  change Code.wp _ _ _ _ (putC W5 X (.slice a2 ln2 cap2) (.int .i64 c'.ep) (.int .i64 (c'.nest : Int)) (.int .i64 c'.err) (.int .i64 c'.pos))
  clear x0 x1 x2 x3 x4 x5 x6 x7 y0 y1 y2 y3 y4 y5 y6 y7 t0 t1 t2 t3 t4 t5 t6 t7
  generalize putC W5 X (.slice a2 ln2 cap2) (.int .i64 c'.ep) (.int .i64 (c'.nest : Int)) (.int .i64 c'.err) (.int .i64 c'.pos) = V at *
  have hP := hP.below ((Below.refl _ V).drew)
  have HT := HT _ hP.st.cur
  have KEEP : Hid (∀ wx, V.drew.grownBy wx (some B) → wx.cell? ⟨T, 0, none⟩ = some (.int .i64 t.kind) ∧ wx.cell? ⟨T, 1, none⟩ = some (.int .i64 t.pos) ∧ wx.cell? ⟨T, 2, none⟩ = some (.int .i64 t.num) ∧ wx.cell? ⟨T, 3, none⟩ = some (.string ⟨t.text.toArray⟩)) := fun wx hg => four_cells ((hg.block _ (Array.getElem?_eq_some_iff.1 hTb.out).1 (fun q => hTB (by injection q))).trans hTb.out)
  clear hTB hTb
  go_region_held3 (fun wx => wx.cell? ⟨T, 0, none⟩ = some (.int .i64 t.kind) ∧ wx.cell? ⟨T, 1, none⟩ = some (.int .i64 t.pos) ∧ wx.cell? ⟨T, 2, none⟩ = some (.int .i64 t.num) ∧ wx.cell? ⟨T, 3, none⟩ = some (.string ⟨t.text.toArray⟩))
    (first | exact KEEP.out _ (grownBy_below (Below.refl _ _) _) | exact KEEP.out _ hg6)
    (first
    | (go_at_call 12; refine HT.mono ?_; rintro e w6 ⟨rfl, hc6, hg6⟩))
  go_wp2_with fail
  go_meet
  exact ⟨by simp, _, _, _, _, (hP.moved hc6 hg6 hws).st⟩
set_option maxRecDepth 100000 in
set_option maxHeartbeats 8000000 in
theorem arm1 {w : World} {B X D : Nat} {v1 : Value} {d : Dd} {c : Cu} {a1 : Option Addr} {ln1 cap1 : Nat} {W : World} {s0 s1 s2 s3 s4 s7 s10 s11 s12 s13 s14 s15 s16 s17 s18 s19 s20 s21 s22 s23 s24 s25 s26 s27 s28 s29 s30 s31 s32 s33 s34 s35 s36 s37 s38 s39 s40 s41 s42 s43 s44 s45 s46 s48 s49 s50 s51 s52 s53 s54 s55 s56 s57 s58 s59 s60 s61 s62 s63 s64 s65 s66 s67 s68 s69 s70 s71 s72 s73 s74 s75 s76 s77 s78 s79 s80 s81 s82 s83 s84 s85 s86 s87 s88 s89 s90 s91 s92 s93 s94 s95 s96 s97 s98 s99 s100 s101 s102 s103 s104 s105 s106 s107 s108 s109 s110 s111 s112 s113 s114 s115 s116 s117 s118 s119 s120 s121 s122 s123 s124 s125 s126 s127 s128 s129 s130 s131 s132 s133 s134 s135 s136 s137 s138 s139 s140 s141 s142 s143 s144 s145 s146 s147 s148 s149 s150 s151 s152 s153 s154 s155 s156 s157 s158 s159 s160 s161 s162 s163 s164 s165 s166 s167 s168 s169 s170 s171 s172 s173 s174 s175 s176 s177 s178 s179 s180 s181 s182 s183 s184 s185 s186 s187 s188 s189 s190 s191 s192 s193 s194 s195 s196 s197 s198 : Value}
    (hP : Pl w B B X D v1 d c c a1 ln1 cap1 W) (hk : ((d.kind == 0) = false ∧ (d.kind == 1) = true)) (Q' : Exit → Act → World → Prop) (J K' : Act → World → Prop)
    (hJ : ∀ a' wx, (∃ u8 u10 u11 u12 u13 u14 u15 u16 u17 u18 u19 u20 u21 u22 u36 u37 u38 u39 u40 u41 u42 u43 u44 u45 u46 u48 u49 u50 u51 u52 u53 u54 u55 u56 u57 u58 u59 u60 u61 u62 u63 u64 u65 u66 u67 u68 u69 u70 u71 u72 u73 u74 u75 u76 u77 u78 u79 u80 u81 u82 u83 u84 u85 u86 u87 u88 u89 u90 u91 u92 u93 u94 u95 u96 u97 u98 u99 u100 u101 u102 u103 u104 u105 u106 u107 u108 u109 u110 u111 u112 u113 u114 u115 u116 u117 u118 u119 u120 u121 u122 u123 u124 u125 u126 u127 u128 u129 u130 u131 u132 u133 u134 u135 u136 u137 u138 u139 u140 u141 u142 u143 u144 u145 u146 u147 u148 u149 u150 u151 u152 u153 u154 u155 u156 u157 u158 u159 u160 u161 u162 u163 u164 u165 u166 u167 u168 u169 u170 u171 u172 u173 u174 u175 u176 u177 u178 u179 u180 u181 u182 u183 u184 u185 u186 u187 u188 u189 u190 u191 u192 u193 u194 u195 u196 u197 : Value, (u8 = .bool true ∧ ∃ (c' : Cu) (a' : Option Addr) (ln' cap' : Nat), Hid (St w B B X v1 c' c' a' ln' cap' wx)) ∧ a' = ⟨#[s0, s1, s2, s3, s4, .pointer (some ⟨B, 0, none⟩), .pointer (some ⟨X, 0, none⟩), s7, u8, .pointer (some ⟨D, 0, none⟩), u10, u11, u12, u13, u14, u15, u16, u17, u18, u19, u20, u21, u22, s23, s24, s25, s26, s27, s28, s29, s30, s31, s32, s33, s34, s35, u36, u37, u38, u39, u40, u41, u42, u43, u44, u45, u46, .int .i64 d.kind, u48, u49, u50, u51, u52, u53, u54, u55, u56, u57, u58, u59, u60, u61, u62, u63, u64, u65, u66, u67, u68, u69, u70, u71, u72, u73, u74, u75, u76, u77, u78, u79, u80, u81, u82, u83, u84, u85, u86, u87, u88, u89, u90, u91, u92, u93, u94, u95, u96, u97, u98, u99, u100, u101, u102, u103, u104, u105, u106, u107, u108, u109, u110, u111, u112, u113, u114, u115, u116, u117, u118, u119, u120, u121, u122, u123, u124, u125, u126, u127, u128, u129, u130, u131, u132, u133, u134, u135, u136, u137, u138, u139, u140, u141, u142, u143, u144, u145, u146, u147, u148, u149, u150, u151, u152, u153, u154, u155, u156, u157, u158, u159, u160, u161, u162, u163, u164, u165, u166, u167, u168, u169, u170, u171, u172, u173, u174, u175, u176, u177, u178, u179, u180, u181, u182, u183, u184, u185, u186, u187, u188, u189, u190, u191, u192, u193, u194, u195, u196, u197, s198], []⟩) → J a' wx) (hK : ∀ a' w', Met J a' w' → K' a' w') :
    Code.wp Try.prog switchC (Exit.then K' Q') ⟨#[s0, s1, s2, s3, s4, .pointer (some ⟨B, 0, none⟩), .pointer (some ⟨X, 0, none⟩), s7, .bool true, .pointer (some ⟨D, 0, none⟩), s10, s11, s12, s13, s14, s15, s16, s17, s18, s19, s20, s21, s22, s23, s24, s25, s26, s27, s28, s29, s30, s31, s32, s33, s34, s35, s36, s37, s38, s39, s40, s41, s42, s43, s44, s45, s46, .int .i64 d.kind, s48, s49, s50, s51, s52, s53, s54, s55, s56, s57, s58, s59, s60, s61, s62, s63, s64, s65, s66, s67, s68, s69, s70, s71, s72, s73, s74, s75, s76, s77, s78, s79, s80, s81, s82, s83, s84, s85, s86, s87, s88, s89, s90, s91, s92, s93, s94, s95, s96, s97, s98, s99, s100, s101, s102, s103, s104, s105, s106, s107, s108, s109, s110, s111, s112, s113, s114, s115, s116, s117, s118, s119, s120, s121, s122, s123, s124, s125, s126, s127, s128, s129, s130, s131, s132, s133, s134, s135, s136, s137, s138, s139, s140, s141, s142, s143, s144, s145, s146, s147, s148, s149, s150, s151, s152, s153, s154, s155, s156, s157, s158, s159, s160, s161, s162, s163, s164, s165, s166, s167, s168, s169, s170, s171, s172, s173, s174, s175, s176, s177, s178, s179, s180, s181, s182, s183, s184, s185, s186, s187, s188, s189, s190, s191, s192, s193, s194, s195, s196, s197, s198], []⟩ W := by
  conv => arg 2; whnf
  obtain ⟨k0, k1⟩ := hk
  obtain ⟨⟨y0, y1, y2, y3, y4, y5, y6, y7⟩, -⟩ := cells8 hP.st.blk
  obtain ⟨z0, z1, z2⟩ := hP.deed
  have HP1 : ∀ V, Below W.heap.size W V → Calls Try.prog 13 #[.pointer (some ⟨B, 0, none⟩), .string d.text] V fun e w' => e = .returned (.bool (c.is d.text.data.toList)) ∧ Below W.heap.size W w' :=
    fun V hB => (is_any (hP.below hB).st.cur d.text).mono fun e w' h => ⟨h.1, hB.trans (h.2.mono hB.size)⟩
  have HP2 : ∀ V, Below W.heap.size W V → Calls Try.prog 14 #[.agg (refC (.slice a1 ln1 cap1) c.ep (c.nest : Int) c.err c.pos), .string d.text] V fun e w' => e = .returned (.bool (c.is d.text.data.toList)) ∧ Below W.heap.size W w' :=
    fun V hB => (refis_any ⟨_, rfl, (hP.below hB).st.row⟩ (hP.below hB).st.size d.text).mono fun e w' h => ⟨h.1, hB.trans (h.2.mono hB.size)⟩
  have KEEP : Hid (∀ wx, Below W.heap.size W wx → Below W.heap.size W wx ∧ wx.cell? ⟨X, 0, none⟩ = some (.slice a1 ln1 cap1) ∧ wx.cell? ⟨X, 1, none⟩ = some (.int .i64 0) ∧ wx.cell? ⟨X, 2, none⟩ = some (.int .i64 c.ep) ∧ wx.cell? ⟨X, 3, none⟩ = some (.int .i64 0) ∧ wx.cell? ⟨X, 4, none⟩ = some (.string ⟨#[]⟩) ∧ wx.cell? ⟨X, 5, none⟩ = some (.int .i64 (c.nest : Int)) ∧ wx.cell? ⟨X, 6, none⟩ = some (.int .i64 c.err) ∧ wx.cell? ⟨X, 7, none⟩ = some (.int .i64 c.pos) ∧ wx.cell? ⟨D, 2, none⟩ = some (.string d.text)) := fun wx hB =>
    have h8 := (cells8 (hP.below hB).st.blk).1
    ⟨hB, h8.1, h8.2.1, h8.2.2.1, h8.2.2.2.1, h8.2.2.2.2.1, h8.2.2.2.2.2.1, h8.2.2.2.2.2.2.1, h8.2.2.2.2.2.2.2, (hP.below hB).deed.2.2⟩
  have FIN : Hid (∀ wx, Below W.heap.size W wx → St w B B X v1 c c a1 ln1 cap1 wx) := fun wx hB => (hP.below hB).st
  clear hP
  generalize c.is d.text.data.toList = q at *
  go_upto_region 15 with fail
  go_region_held3 (fun wx => Below W.heap.size W wx ∧ wx.cell? ⟨X, 0, none⟩ = some (.slice a1 ln1 cap1) ∧ wx.cell? ⟨X, 1, none⟩ = some (.int .i64 0) ∧ wx.cell? ⟨X, 2, none⟩ = some (.int .i64 c.ep) ∧ wx.cell? ⟨X, 3, none⟩ = some (.int .i64 0) ∧ wx.cell? ⟨X, 4, none⟩ = some (.string ⟨#[]⟩) ∧ wx.cell? ⟨X, 5, none⟩ = some (.int .i64 (c.nest : Int)) ∧ wx.cell? ⟨X, 6, none⟩ = some (.int .i64 c.err) ∧ wx.cell? ⟨X, 7, none⟩ = some (.int .i64 c.pos) ∧ wx.cell? ⟨D, 2, none⟩ = some (.string d.text))
    (first | exact KEEP.out _ ((Below.refl _ W).drew) | exact KEEP.out _ hacc)
    (first
    | (go_at_call 13; refine (HP1 _ ?_).mono ?_; (first | exact hacc | exact (Below.refl _ W).drew); rintro e w5 ⟨rfl, hacc⟩)
    | (go_at_call 14; refine (HP2 _ ?_).mono ?_; (first | exact hacc | exact (Below.refl _ W).drew); rintro e w6 ⟨rfl, hacc⟩))
  go_wp2_with fail
  go_meet
  exact ⟨by simp, _, _, _, _, FIN.out _ hacc⟩
set_option maxRecDepth 100000 in
set_option maxHeartbeats 8000000 in
theorem arm2 {w : World} {B X D : Nat} {v1 : Value} {d : Dd} {c : Cu} {a1 : Option Addr} {ln1 cap1 : Nat} {W : World} {s0 s1 s2 s3 s4 s7 s10 s11 s12 s13 s14 s15 s16 s17 s18 s19 s20 s21 s22 s23 s24 s25 s26 s27 s28 s29 s30 s31 s32 s33 s34 s35 s36 s37 s38 s39 s40 s41 s42 s43 s44 s45 s46 s48 s49 s50 s51 s52 s53 s54 s55 s56 s57 s58 s59 s60 s61 s62 s63 s64 s65 s66 s67 s68 s69 s70 s71 s72 s73 s74 s75 s76 s77 s78 s79 s80 s81 s82 s83 s84 s85 s86 s87 s88 s89 s90 s91 s92 s93 s94 s95 s96 s97 s98 s99 s100 s101 s102 s103 s104 s105 s106 s107 s108 s109 s110 s111 s112 s113 s114 s115 s116 s117 s118 s119 s120 s121 s122 s123 s124 s125 s126 s127 s128 s129 s130 s131 s132 s133 s134 s135 s136 s137 s138 s139 s140 s141 s142 s143 s144 s145 s146 s147 s148 s149 s150 s151 s152 s153 s154 s155 s156 s157 s158 s159 s160 s161 s162 s163 s164 s165 s166 s167 s168 s169 s170 s171 s172 s173 s174 s175 s176 s177 s178 s179 s180 s181 s182 s183 s184 s185 s186 s187 s188 s189 s190 s191 s192 s193 s194 s195 s196 s197 s198 : Value}
    (hP : Pl w B B X D v1 d c c a1 ln1 cap1 W) (hk : ((d.kind == 0) = false ∧ (d.kind == 1) = false ∧ (d.kind == 2) = true)) (Q' : Exit → Act → World → Prop) (J K' : Act → World → Prop)
    (hJ : ∀ a' wx, (∃ u8 u10 u11 u12 u13 u14 u15 u16 u17 u18 u19 u20 u21 u22 u36 u37 u38 u39 u40 u41 u42 u43 u44 u45 u46 u48 u49 u50 u51 u52 u53 u54 u55 u56 u57 u58 u59 u60 u61 u62 u63 u64 u65 u66 u67 u68 u69 u70 u71 u72 u73 u74 u75 u76 u77 u78 u79 u80 u81 u82 u83 u84 u85 u86 u87 u88 u89 u90 u91 u92 u93 u94 u95 u96 u97 u98 u99 u100 u101 u102 u103 u104 u105 u106 u107 u108 u109 u110 u111 u112 u113 u114 u115 u116 u117 u118 u119 u120 u121 u122 u123 u124 u125 u126 u127 u128 u129 u130 u131 u132 u133 u134 u135 u136 u137 u138 u139 u140 u141 u142 u143 u144 u145 u146 u147 u148 u149 u150 u151 u152 u153 u154 u155 u156 u157 u158 u159 u160 u161 u162 u163 u164 u165 u166 u167 u168 u169 u170 u171 u172 u173 u174 u175 u176 u177 u178 u179 u180 u181 u182 u183 u184 u185 u186 u187 u188 u189 u190 u191 u192 u193 u194 u195 u196 u197 : Value, (u8 = .bool true ∧ ∃ (c' : Cu) (a' : Option Addr) (ln' cap' : Nat), Hid (St w B B X v1 c' c' a' ln' cap' wx)) ∧ a' = ⟨#[s0, s1, s2, s3, s4, .pointer (some ⟨B, 0, none⟩), .pointer (some ⟨X, 0, none⟩), s7, u8, .pointer (some ⟨D, 0, none⟩), u10, u11, u12, u13, u14, u15, u16, u17, u18, u19, u20, u21, u22, s23, s24, s25, s26, s27, s28, s29, s30, s31, s32, s33, s34, s35, u36, u37, u38, u39, u40, u41, u42, u43, u44, u45, u46, .int .i64 d.kind, u48, u49, u50, u51, u52, u53, u54, u55, u56, u57, u58, u59, u60, u61, u62, u63, u64, u65, u66, u67, u68, u69, u70, u71, u72, u73, u74, u75, u76, u77, u78, u79, u80, u81, u82, u83, u84, u85, u86, u87, u88, u89, u90, u91, u92, u93, u94, u95, u96, u97, u98, u99, u100, u101, u102, u103, u104, u105, u106, u107, u108, u109, u110, u111, u112, u113, u114, u115, u116, u117, u118, u119, u120, u121, u122, u123, u124, u125, u126, u127, u128, u129, u130, u131, u132, u133, u134, u135, u136, u137, u138, u139, u140, u141, u142, u143, u144, u145, u146, u147, u148, u149, u150, u151, u152, u153, u154, u155, u156, u157, u158, u159, u160, u161, u162, u163, u164, u165, u166, u167, u168, u169, u170, u171, u172, u173, u174, u175, u176, u177, u178, u179, u180, u181, u182, u183, u184, u185, u186, u187, u188, u189, u190, u191, u192, u193, u194, u195, u196, u197, s198], []⟩) → J a' wx) (hK : ∀ a' w', Met J a' w' → K' a' w') :
    Code.wp Try.prog switchC (Exit.then K' Q') ⟨#[s0, s1, s2, s3, s4, .pointer (some ⟨B, 0, none⟩), .pointer (some ⟨X, 0, none⟩), s7, .bool true, .pointer (some ⟨D, 0, none⟩), s10, s11, s12, s13, s14, s15, s16, s17, s18, s19, s20, s21, s22, s23, s24, s25, s26, s27, s28, s29, s30, s31, s32, s33, s34, s35, s36, s37, s38, s39, s40, s41, s42, s43, s44, s45, s46, .int .i64 d.kind, s48, s49, s50, s51, s52, s53, s54, s55, s56, s57, s58, s59, s60, s61, s62, s63, s64, s65, s66, s67, s68, s69, s70, s71, s72, s73, s74, s75, s76, s77, s78, s79, s80, s81, s82, s83, s84, s85, s86, s87, s88, s89, s90, s91, s92, s93, s94, s95, s96, s97, s98, s99, s100, s101, s102, s103, s104, s105, s106, s107, s108, s109, s110, s111, s112, s113, s114, s115, s116, s117, s118, s119, s120, s121, s122, s123, s124, s125, s126, s127, s128, s129, s130, s131, s132, s133, s134, s135, s136, s137, s138, s139, s140, s141, s142, s143, s144, s145, s146, s147, s148, s149, s150, s151, s152, s153, s154, s155, s156, s157, s158, s159, s160, s161, s162, s163, s164, s165, s166, s167, s168, s169, s170, s171, s172, s173, s174, s175, s176, s177, s178, s179, s180, s181, s182, s183, s184, s185, s186, s187, s188, s189, s190, s191, s192, s193, s194, s195, s196, s197, s198], []⟩ W := by
  conv => arg 2; whnf
  obtain ⟨k0, k1, k2⟩ := hk
  obtain ⟨⟨y0, y1, y2, y3, y4, y5, y6, y7⟩, -⟩ := cells8 hP.st.blk
  obtain ⟨z0, z1, z2⟩ := hP.deed
  have HR := reftake_any ⟨_, rfl, hP.st.row⟩ hP.st.size d.text
  go_wp2_with fail
  refine HR.mono ?_; rintro e w5 ⟨x', rfl, hx, hB⟩
  obtain ⟨a2, ln2, cap2, rfl, hr, -⟩ := hx.shape
  have hP := hP.below hB
  have hws := take_ws c d.text.data.toList
  have HT := fun (V : World) (hc : CurAt V B v1 c) => take_any hc d.text
  clear HR hB hx y0 y1 y2 y3 y4 y5 y6 y7 z0 z1 z2
  generalize c.take d.text.data.toList = c' at *
  generalize c.is d.text.data.toList = q at *
  have hbx : Below w5.heap.size w5 (w5.alloc (.cells (refC (.slice a2 ln2 cap2) c'.ep (c'.nest : Int) c'.err c'.pos) 31)) := (Below.refl _ w5).alloc (Nat.le_refl _) _
  have hr := hr.out.below (hbx.mono hP.st.size)
  have hP := hP.below hbx
  clear hbx
  obtain ⟨⟨y0, y1, y2, y3, y4, y5, y6, y7⟩, t0, t1, t2, t3, t4, t5, t6, t7⟩ := cells8 hP.st.blk
  have hP := hP.store hr
  have HT := HT _ hP.st.cur
  obtain ⟨z0, z1, z2⟩ := hP.deed
  unfold putC at hP HT z0 z1 z2
  clear hr
  go_wp2_with fail
  refine HT.mono ?_; rintro e w6 ⟨rfl, hc6, hg6⟩
  have hP := hP.moved hc6 hg6 hws
  clear HT hc6 hg6 hws y0 y1 y2 y3 y4 y5 y6 y7 z0 z1 z2 t0 t1 t2 t3 t4 t5 t6 t7
  go_wp2_with fail
  go_meet
  exact ⟨by simp, _, _, _, _, hP.st⟩
set_option maxRecDepth 100000 in
set_option maxHeartbeats 8000000 in
theorem arm3 {w : World} {B X D : Nat} {v1 : Value} {d : Dd} {c : Cu} {a1 : Option Addr} {ln1 cap1 : Nat} {W : World} {s0 s1 s2 s3 s4 s7 s10 s11 s12 s13 s14 s15 s16 s17 s18 s19 s20 s21 s22 s23 s24 s25 s26 s27 s28 s29 s30 s31 s32 s33 s34 s35 s36 s37 s38 s39 s40 s41 s42 s43 s44 s45 s46 s48 s49 s50 s51 s52 s53 s54 s55 s56 s57 s58 s59 s60 s61 s62 s63 s64 s65 s66 s67 s68 s69 s70 s71 s72 s73 s74 s75 s76 s77 s78 s79 s80 s81 s82 s83 s84 s85 s86 s87 s88 s89 s90 s91 s92 s93 s94 s95 s96 s97 s98 s99 s100 s101 s102 s103 s104 s105 s106 s107 s108 s109 s110 s111 s112 s113 s114 s115 s116 s117 s118 s119 s120 s121 s122 s123 s124 s125 s126 s127 s128 s129 s130 s131 s132 s133 s134 s135 s136 s137 s138 s139 s140 s141 s142 s143 s144 s145 s146 s147 s148 s149 s150 s151 s152 s153 s154 s155 s156 s157 s158 s159 s160 s161 s162 s163 s164 s165 s166 s167 s168 s169 s170 s171 s172 s173 s174 s175 s176 s177 s178 s179 s180 s181 s182 s183 s184 s185 s186 s187 s188 s189 s190 s191 s192 s193 s194 s195 s196 s197 s198 : Value}
    (hP : Pl w B B X D v1 d c c a1 ln1 cap1 W) (hk : ((d.kind == 0) = false ∧ (d.kind == 1) = false ∧ (d.kind == 2) = false ∧ (d.kind == 3) = true)) (Q' : Exit → Act → World → Prop) (J K' : Act → World → Prop)
    (hJ : ∀ a' wx, (∃ u8 u10 u11 u12 u13 u14 u15 u16 u17 u18 u19 u20 u21 u22 u36 u37 u38 u39 u40 u41 u42 u43 u44 u45 u46 u48 u49 u50 u51 u52 u53 u54 u55 u56 u57 u58 u59 u60 u61 u62 u63 u64 u65 u66 u67 u68 u69 u70 u71 u72 u73 u74 u75 u76 u77 u78 u79 u80 u81 u82 u83 u84 u85 u86 u87 u88 u89 u90 u91 u92 u93 u94 u95 u96 u97 u98 u99 u100 u101 u102 u103 u104 u105 u106 u107 u108 u109 u110 u111 u112 u113 u114 u115 u116 u117 u118 u119 u120 u121 u122 u123 u124 u125 u126 u127 u128 u129 u130 u131 u132 u133 u134 u135 u136 u137 u138 u139 u140 u141 u142 u143 u144 u145 u146 u147 u148 u149 u150 u151 u152 u153 u154 u155 u156 u157 u158 u159 u160 u161 u162 u163 u164 u165 u166 u167 u168 u169 u170 u171 u172 u173 u174 u175 u176 u177 u178 u179 u180 u181 u182 u183 u184 u185 u186 u187 u188 u189 u190 u191 u192 u193 u194 u195 u196 u197 : Value, (u8 = .bool true ∧ ∃ (c' : Cu) (a' : Option Addr) (ln' cap' : Nat), Hid (St w B B X v1 c' c' a' ln' cap' wx)) ∧ a' = ⟨#[s0, s1, s2, s3, s4, .pointer (some ⟨B, 0, none⟩), .pointer (some ⟨X, 0, none⟩), s7, u8, .pointer (some ⟨D, 0, none⟩), u10, u11, u12, u13, u14, u15, u16, u17, u18, u19, u20, u21, u22, s23, s24, s25, s26, s27, s28, s29, s30, s31, s32, s33, s34, s35, u36, u37, u38, u39, u40, u41, u42, u43, u44, u45, u46, .int .i64 d.kind, u48, u49, u50, u51, u52, u53, u54, u55, u56, u57, u58, u59, u60, u61, u62, u63, u64, u65, u66, u67, u68, u69, u70, u71, u72, u73, u74, u75, u76, u77, u78, u79, u80, u81, u82, u83, u84, u85, u86, u87, u88, u89, u90, u91, u92, u93, u94, u95, u96, u97, u98, u99, u100, u101, u102, u103, u104, u105, u106, u107, u108, u109, u110, u111, u112, u113, u114, u115, u116, u117, u118, u119, u120, u121, u122, u123, u124, u125, u126, u127, u128, u129, u130, u131, u132, u133, u134, u135, u136, u137, u138, u139, u140, u141, u142, u143, u144, u145, u146, u147, u148, u149, u150, u151, u152, u153, u154, u155, u156, u157, u158, u159, u160, u161, u162, u163, u164, u165, u166, u167, u168, u169, u170, u171, u172, u173, u174, u175, u176, u177, u178, u179, u180, u181, u182, u183, u184, u185, u186, u187, u188, u189, u190, u191, u192, u193, u194, u195, u196, u197, s198], []⟩) → J a' wx) (hK : ∀ a' w', Met J a' w' → K' a' w') :
    Code.wp Try.prog switchC (Exit.then K' Q') ⟨#[s0, s1, s2, s3, s4, .pointer (some ⟨B, 0, none⟩), .pointer (some ⟨X, 0, none⟩), s7, .bool true, .pointer (some ⟨D, 0, none⟩), s10, s11, s12, s13, s14, s15, s16, s17, s18, s19, s20, s21, s22, s23, s24, s25, s26, s27, s28, s29, s30, s31, s32, s33, s34, s35, s36, s37, s38, s39, s40, s41, s42, s43, s44, s45, s46, .int .i64 d.kind, s48, s49, s50, s51, s52, s53, s54, s55, s56, s57, s58, s59, s60, s61, s62, s63, s64, s65, s66, s67, s68, s69, s70, s71, s72, s73, s74, s75, s76, s77, s78, s79, s80, s81, s82, s83, s84, s85, s86, s87, s88, s89, s90, s91, s92, s93, s94, s95, s96, s97, s98, s99, s100, s101, s102, s103, s104, s105, s106, s107, s108, s109, s110, s111, s112, s113, s114, s115, s116, s117, s118, s119, s120, s121, s122, s123, s124, s125, s126, s127, s128, s129, s130, s131, s132, s133, s134, s135, s136, s137, s138, s139, s140, s141, s142, s143, s144, s145, s146, s147, s148, s149, s150, s151, s152, s153, s154, s155, s156, s157, s158, s159, s160, s161, s162, s163, s164, s165, s166, s167, s168, s169, s170, s171, s172, s173, s174, s175, s176, s177, s178, s179, s180, s181, s182, s183, s184, s185, s186, s187, s188, s189, s190, s191, s192, s193, s194, s195, s196, s197, s198], []⟩ W := by
  conv => arg 2; whnf
  obtain ⟨k0, k1, k2, k3⟩ := hk
  obtain ⟨⟨y0, y1, y2, y3, y4, y5, y6, y7⟩, -⟩ := cells8 hP.st.blk
  obtain ⟨z0, z1, z2⟩ := hP.deed
  have HR := refwant_any ⟨_, rfl, hP.st.row⟩ hP.st.size d.text
  go_wp2_with fail
  refine HR.mono ?_; rintro e w5 ⟨x', rfl, hx, hB⟩
  obtain ⟨a2, ln2, cap2, rfl, hr, -⟩ := hx.shape
  have hP := hP.below hB
  have hws := want_ws c d.text.data.toList
  have HT := fun (V : World) (hc : CurAt V B v1 c) => want_any hc d.text
  clear HR hB hx y0 y1 y2 y3 y4 y5 y6 y7 z0 z1 z2
  generalize c.want d.text.data.toList = c' at *
  generalize c.is d.text.data.toList = q at *
  have hbx : Below w5.heap.size w5 (w5.alloc (.cells (refC (.slice a2 ln2 cap2) c'.ep (c'.nest : Int) c'.err c'.pos) 31)) := (Below.refl _ w5).alloc (Nat.le_refl _) _
  have hr := hr.out.below (hbx.mono hP.st.size)
  have hP := hP.below hbx
  clear hbx
  obtain ⟨⟨y0, y1, y2, y3, y4, y5, y6, y7⟩, t0, t1, t2, t3, t4, t5, t6, t7⟩ := cells8 hP.st.blk
  have hP := hP.store hr
  have HT := HT _ hP.st.cur
  obtain ⟨z0, z1, z2⟩ := hP.deed
  unfold putC at hP HT z0 z1 z2
  clear hr
  go_wp2_with fail
  refine HT.mono ?_; rintro e w6 ⟨rfl, hc6, hg6⟩
  have hP := hP.moved hc6 hg6 hws
  clear HT hc6 hg6 hws y0 y1 y2 y3 y4 y5 y6 y7 z0 z1 z2 t0 t1 t2 t3 t4 t5 t6 t7
  go_wp2_with fail
  go_meet
  exact ⟨by simp, _, _, _, _, hP.st⟩
set_option maxRecDepth 100000 in
set_option maxHeartbeats 8000000 in
theorem arm4 {w : World} {B X D : Nat} {v1 : Value} {d : Dd} {c : Cu} {a1 : Option Addr} {ln1 cap1 : Nat} {W : World} {s0 s1 s2 s3 s4 s7 s10 s11 s12 s13 s14 s15 s16 s17 s18 s19 s20 s21 s22 s23 s24 s25 s26 s27 s28 s29 s30 s31 s32 s33 s34 s35 s36 s37 s38 s39 s40 s41 s42 s43 s44 s45 s46 s48 s49 s50 s51 s52 s53 s54 s55 s56 s57 s58 s59 s60 s61 s62 s63 s64 s65 s66 s67 s68 s69 s70 s71 s72 s73 s74 s75 s76 s77 s78 s79 s80 s81 s82 s83 s84 s85 s86 s87 s88 s89 s90 s91 s92 s93 s94 s95 s96 s97 s98 s99 s100 s101 s102 s103 s104 s105 s106 s107 s108 s109 s110 s111 s112 s113 s114 s115 s116 s117 s118 s119 s120 s121 s122 s123 s124 s125 s126 s127 s128 s129 s130 s131 s132 s133 s134 s135 s136 s137 s138 s139 s140 s141 s142 s143 s144 s145 s146 s147 s148 s149 s150 s151 s152 s153 s154 s155 s156 s157 s158 s159 s160 s161 s162 s163 s164 s165 s166 s167 s168 s169 s170 s171 s172 s173 s174 s175 s176 s177 s178 s179 s180 s181 s182 s183 s184 s185 s186 s187 s188 s189 s190 s191 s192 s193 s194 s195 s196 s197 s198 : Value}
    (hP : Pl w B B X D v1 d c c a1 ln1 cap1 W) (hk : ((d.kind == 0) = false ∧ (d.kind == 1) = false ∧ (d.kind == 2) = false ∧ (d.kind == 3) = false ∧ (d.kind == 4) = true)) (Q' : Exit → Act → World → Prop) (J K' : Act → World → Prop)
    (hJ : ∀ a' wx, (∃ u8 u10 u11 u12 u13 u14 u15 u16 u17 u18 u19 u20 u21 u22 u36 u37 u38 u39 u40 u41 u42 u43 u44 u45 u46 u48 u49 u50 u51 u52 u53 u54 u55 u56 u57 u58 u59 u60 u61 u62 u63 u64 u65 u66 u67 u68 u69 u70 u71 u72 u73 u74 u75 u76 u77 u78 u79 u80 u81 u82 u83 u84 u85 u86 u87 u88 u89 u90 u91 u92 u93 u94 u95 u96 u97 u98 u99 u100 u101 u102 u103 u104 u105 u106 u107 u108 u109 u110 u111 u112 u113 u114 u115 u116 u117 u118 u119 u120 u121 u122 u123 u124 u125 u126 u127 u128 u129 u130 u131 u132 u133 u134 u135 u136 u137 u138 u139 u140 u141 u142 u143 u144 u145 u146 u147 u148 u149 u150 u151 u152 u153 u154 u155 u156 u157 u158 u159 u160 u161 u162 u163 u164 u165 u166 u167 u168 u169 u170 u171 u172 u173 u174 u175 u176 u177 u178 u179 u180 u181 u182 u183 u184 u185 u186 u187 u188 u189 u190 u191 u192 u193 u194 u195 u196 u197 : Value, (u8 = .bool true ∧ ∃ (c' : Cu) (a' : Option Addr) (ln' cap' : Nat), Hid (St w B B X v1 c' c' a' ln' cap' wx)) ∧ a' = ⟨#[s0, s1, s2, s3, s4, .pointer (some ⟨B, 0, none⟩), .pointer (some ⟨X, 0, none⟩), s7, u8, .pointer (some ⟨D, 0, none⟩), u10, u11, u12, u13, u14, u15, u16, u17, u18, u19, u20, u21, u22, s23, s24, s25, s26, s27, s28, s29, s30, s31, s32, s33, s34, s35, u36, u37, u38, u39, u40, u41, u42, u43, u44, u45, u46, .int .i64 d.kind, u48, u49, u50, u51, u52, u53, u54, u55, u56, u57, u58, u59, u60, u61, u62, u63, u64, u65, u66, u67, u68, u69, u70, u71, u72, u73, u74, u75, u76, u77, u78, u79, u80, u81, u82, u83, u84, u85, u86, u87, u88, u89, u90, u91, u92, u93, u94, u95, u96, u97, u98, u99, u100, u101, u102, u103, u104, u105, u106, u107, u108, u109, u110, u111, u112, u113, u114, u115, u116, u117, u118, u119, u120, u121, u122, u123, u124, u125, u126, u127, u128, u129, u130, u131, u132, u133, u134, u135, u136, u137, u138, u139, u140, u141, u142, u143, u144, u145, u146, u147, u148, u149, u150, u151, u152, u153, u154, u155, u156, u157, u158, u159, u160, u161, u162, u163, u164, u165, u166, u167, u168, u169, u170, u171, u172, u173, u174, u175, u176, u177, u178, u179, u180, u181, u182, u183, u184, u185, u186, u187, u188, u189, u190, u191, u192, u193, u194, u195, u196, u197, s198], []⟩) → J a' wx) (hK : ∀ a' w', Met J a' w' → K' a' w') :
    Code.wp Try.prog switchC (Exit.then K' Q') ⟨#[s0, s1, s2, s3, s4, .pointer (some ⟨B, 0, none⟩), .pointer (some ⟨X, 0, none⟩), s7, .bool true, .pointer (some ⟨D, 0, none⟩), s10, s11, s12, s13, s14, s15, s16, s17, s18, s19, s20, s21, s22, s23, s24, s25, s26, s27, s28, s29, s30, s31, s32, s33, s34, s35, s36, s37, s38, s39, s40, s41, s42, s43, s44, s45, s46, .int .i64 d.kind, s48, s49, s50, s51, s52, s53, s54, s55, s56, s57, s58, s59, s60, s61, s62, s63, s64, s65, s66, s67, s68, s69, s70, s71, s72, s73, s74, s75, s76, s77, s78, s79, s80, s81, s82, s83, s84, s85, s86, s87, s88, s89, s90, s91, s92, s93, s94, s95, s96, s97, s98, s99, s100, s101, s102, s103, s104, s105, s106, s107, s108, s109, s110, s111, s112, s113, s114, s115, s116, s117, s118, s119, s120, s121, s122, s123, s124, s125, s126, s127, s128, s129, s130, s131, s132, s133, s134, s135, s136, s137, s138, s139, s140, s141, s142, s143, s144, s145, s146, s147, s148, s149, s150, s151, s152, s153, s154, s155, s156, s157, s158, s159, s160, s161, s162, s163, s164, s165, s166, s167, s168, s169, s170, s171, s172, s173, s174, s175, s176, s177, s178, s179, s180, s181, s182, s183, s184, s185, s186, s187, s188, s189, s190, s191, s192, s193, s194, s195, s196, s197, s198], []⟩ W := by
  conv => arg 2; whnf
  obtain ⟨k0, k1, k2, k3, k4⟩ := hk
  obtain ⟨⟨y0, y1, y2, y3, y4, y5, y6, y7⟩, -⟩ := cells8 hP.st.blk
  obtain ⟨z0, z1, z2⟩ := hP.deed
  have HR := refkind_any ⟨_, rfl, hP.st.row⟩ hP.st.size d.num
  have hws := kind_ws c d.num
  have HT := fun (V : World) (hc : CurAt V B v1 c) => kind_any hc d.num
  have hv : (c.kindT d.num).val = .agg #[.int .i64 (c.kindT d.num).kind, .int .i64 (c.kindT d.num).pos, .int .i64 (c.kindT d.num).num, .string ⟨(c.kindT d.num).text.toArray⟩] := rfl
  rw [hv] at HR HT
  clear hv
  generalize c.kindT d.num = t at *
  generalize c.kind d.num = c' at *
  generalize c.kindOk d.num = q at *
  go_wp2_with fail
  refine HR.mono ?_; rintro e w5 ⟨x', rfl, hx, hB⟩
  obtain ⟨a2, ln2, cap2, rfl, hr, -⟩ := hx.shape
  have hP := hP.below hB
  clear HR hB hx y0 y1 y2 y3 y4 y5 y6 y7 z0 z1 z2
  have hTB : w5.heap.size + 1 ≠ B := by have := hP.st.cur.lt; omega
  have hTX : w5.heap.size + 1 ≠ X := by have := (Array.getElem?_eq_some_iff.1 hP.st.blk).1; omega
  have hbx : Below w5.heap.size w5 ((w5.alloc (.cells #[.slice a2 ln2 cap2, .int .i64 0, .int .i64 c'.ep, .int .i64 0, .string ⟨#[]⟩, .int .i64 (c'.nest : Int), .int .i64 c'.err, .int .i64 c'.pos] 31)).alloc (.cells #[.int .i64 t.kind, .int .i64 t.pos, .int .i64 t.num, .string ⟨t.text.toArray⟩] 29)) := ((Below.refl _ w5).alloc (Nat.le_refl _) _).alloc (by simp) _
  have hr := hr.out.below (hbx.mono hP.st.size)
  have hP := hP.below hbx
  have hY : ((w5.alloc (.cells #[.slice a2 ln2 cap2, .int .i64 0, .int .i64 c'.ep, .int .i64 0, .string ⟨#[]⟩, .int .i64 (c'.nest : Int), .int .i64 c'.err, .int .i64 c'.pos] 31)).alloc (.cells #[.int .i64 t.kind, .int .i64 t.pos, .int .i64 t.num, .string ⟨t.text.toArray⟩] 29)).heap[w5.heap.size]? = some (.cells #[.slice a2 ln2 cap2, .int .i64 0, .int .i64 c'.ep, .int .i64 0, .string ⟨#[]⟩, .int .i64 (c'.nest : Int), .int .i64 c'.err, .int .i64 c'.pos] 31 (0, 0)) := by
    exact (((Below.refl _ (w5.alloc (.cells #[.slice a2 ln2 cap2, .int .i64 0, .int .i64 c'.ep, .int .i64 0, .string ⟨#[]⟩, .int .i64 (c'.nest : Int), .int .i64 c'.err, .int .i64 c'.pos] 31))).alloc (Nat.le_refl _) _).block _ (by simp)).trans (World.alloc_heap_new w5 _)
  have hTb : ((w5.alloc (.cells #[.slice a2 ln2 cap2, .int .i64 0, .int .i64 c'.ep, .int .i64 0, .string ⟨#[]⟩, .int .i64 (c'.nest : Int), .int .i64 c'.err, .int .i64 c'.pos] 31)).alloc (.cells #[.int .i64 t.kind, .int .i64 t.pos, .int .i64 t.num, .string ⟨t.text.toArray⟩] 29)).heap[w5.heap.size + 1]? = some (.cells #[.int .i64 t.kind, .int .i64 t.pos, .int .i64 t.num, .string ⟨t.text.toArray⟩] 29 (0, 0)) := by
    have := World.alloc_heap_new (w5.alloc (.cells #[.slice a2 ln2 cap2, .int .i64 0, .int .i64 c'.ep, .int .i64 0, .string ⟨#[]⟩, .int .i64 (c'.nest : Int), .int .i64 c'.err, .int .i64 c'.pos] 31)) (.cells #[.int .i64 t.kind, .int .i64 t.pos, .int .i64 t.num, .string ⟨t.text.toArray⟩] 29)
    rwa [World.size_alloc] at this
  clear hbx
  go_upto_region 26 with fail
  generalize ((w5.alloc (.cells #[.slice a2 ln2 cap2, .int .i64 0, .int .i64 c'.ep, .int .i64 0, .string ⟨#[]⟩, .int .i64 (c'.nest : Int), .int .i64 c'.err, .int .i64 c'.pos] 31)).alloc (.cells #[.int .i64 t.kind, .int .i64 t.pos, .int .i64 t.num, .string ⟨t.text.toArray⟩] 29)) = W5 at *
  generalize w5.heap.size + 1 = T at *
  generalize w5.heap.size = Y at *
  obtain ⟨⟨x0, x1, x2, x3, x4, x5, x6, x7⟩, -⟩ := cells8 hY
  obtain ⟨⟨y0, y1, y2, y3, y4, y5, y6, y7⟩, t0, t1, t2, t3, t4, t5, t6, t7⟩ := cells8 hP.st.blk
  have hP := hP.store hr
  have hTb := (putC_far W5 X T (.slice a2 ln2 cap2) (.int .i64 c'.ep) (.int .i64 (c'.nest : Int)) (.int .i64 c'.err) (.int .i64 c'.pos) hTX).trans hTb
  have hTb : Hid _ := hTb
  clear hr hY hTX
  go_upto_region 27 with fail
  change Code.wp _ _ _ _ (putC W5 X (.slice a2 ln2 cap2) (.int .i64 c'.ep) (.int .i64 (c'.nest : Int)) (.int .i64 c'.err) (.int .i64 c'.pos))
  clear x0 x1 x2 x3 x4 x5 x6 x7 y0 y1 y2 y3 y4 y5 y6 y7 t0 t1 t2 t3 t4 t5 t6 t7
  generalize putC W5 X (.slice a2 ln2 cap2) (.int .i64 c'.ep) (.int .i64 (c'.nest : Int)) (.int .i64 c'.err) (.int .i64 c'.pos) = V at *
  have HT := HT _ hP.st.cur
  obtain ⟨z0, z1, z2⟩ := hP.deed
  go_wp2_with fail
  refine HT.mono ?_; rintro e w6 ⟨rfl, hc6, hg6⟩
  have hT6 := (hg6.block _ (Array.getElem?_eq_some_iff.1 hTb.out).1 (fun q => hTB (by injection q))).trans hTb.out
  have hb6 : Below w6.heap.size w6 (w6.alloc (.cells #[.int .i64 t.kind, .int .i64 t.pos, .int .i64 t.num, .string ⟨t.text.toArray⟩] 29)) := (Below.refl _ w6).alloc (Nat.le_refl _) _
  have hT6 := (hb6.block _ (Array.getElem?_eq_some_iff.1 hT6).1).trans hT6
  have hU6 : (w6.alloc (.cells #[.int .i64 t.kind, .int .i64 t.pos, .int .i64 t.num, .string ⟨t.text.toArray⟩] 29)).heap[w6.heap.size]? = some (.cells #[.int .i64 t.kind, .int .i64 t.pos, .int .i64 t.num, .string ⟨t.text.toArray⟩] 29 (0, 0)) := World.alloc_heap_new w6 _
  have hP := (hP.moved hc6 hg6 hws).below hb6
  clear HT hTb hTB hc6 hg6 hws z0 z1 z2 hb6
  have hT6 : Hid _ := hT6
  have hU6 : Hid _ := hU6
  go_upto_region 28 with fail
  generalize w6.alloc (.cells #[.int .i64 t.kind, .int .i64 t.pos, .int .i64 t.num, .string ⟨t.text.toArray⟩] 29) = W7 at *
  generalize w6.heap.size = U at *
  obtain ⟨x0, x1, x2, x3⟩ := four_cells hT6.out
  obtain ⟨y0, y1, y2, y3⟩ := four_cells hU6.out
  clear hT6 hU6
  go_wp2_with fail
  go_meet
  exact ⟨by simp, _, _, _, _, hP.st⟩
set_option maxRecDepth 100000 in
set_option maxHeartbeats 8000000 in
theorem arm5 {w : World} {B X D : Nat} {v1 : Value} {d : Dd} {c : Cu} {a1 : Option Addr} {ln1 cap1 : Nat} {W : World} {s0 s1 s2 s3 s4 s7 s10 s11 s12 s13 s14 s15 s16 s17 s18 s19 s20 s21 s22 s23 s24 s25 s26 s27 s28 s29 s30 s31 s32 s33 s34 s35 s36 s37 s38 s39 s40 s41 s42 s43 s44 s45 s46 s48 s49 s50 s51 s52 s53 s54 s55 s56 s57 s58 s59 s60 s61 s62 s63 s64 s65 s66 s67 s68 s69 s70 s71 s72 s73 s74 s75 s76 s77 s78 s79 s80 s81 s82 s83 s84 s85 s86 s87 s88 s89 s90 s91 s92 s93 s94 s95 s96 s97 s98 s99 s100 s101 s102 s103 s104 s105 s106 s107 s108 s109 s110 s111 s112 s113 s114 s115 s116 s117 s118 s119 s120 s121 s122 s123 s124 s125 s126 s127 s128 s129 s130 s131 s132 s133 s134 s135 s136 s137 s138 s139 s140 s141 s142 s143 s144 s145 s146 s147 s148 s149 s150 s151 s152 s153 s154 s155 s156 s157 s158 s159 s160 s161 s162 s163 s164 s165 s166 s167 s168 s169 s170 s171 s172 s173 s174 s175 s176 s177 s178 s179 s180 s181 s182 s183 s184 s185 s186 s187 s188 s189 s190 s191 s192 s193 s194 s195 s196 s197 s198 : Value}
    (hP : Pl w B B X D v1 d c c a1 ln1 cap1 W) (hk : ((d.kind == 0) = false ∧ (d.kind == 1) = false ∧ (d.kind == 2) = false ∧ (d.kind == 3) = false ∧ (d.kind == 4) = false ∧ (d.kind == 5) = true)) (Q' : Exit → Act → World → Prop) (J K' : Act → World → Prop)
    (hJ : ∀ a' wx, (∃ u8 u10 u11 u12 u13 u14 u15 u16 u17 u18 u19 u20 u21 u22 u36 u37 u38 u39 u40 u41 u42 u43 u44 u45 u46 u48 u49 u50 u51 u52 u53 u54 u55 u56 u57 u58 u59 u60 u61 u62 u63 u64 u65 u66 u67 u68 u69 u70 u71 u72 u73 u74 u75 u76 u77 u78 u79 u80 u81 u82 u83 u84 u85 u86 u87 u88 u89 u90 u91 u92 u93 u94 u95 u96 u97 u98 u99 u100 u101 u102 u103 u104 u105 u106 u107 u108 u109 u110 u111 u112 u113 u114 u115 u116 u117 u118 u119 u120 u121 u122 u123 u124 u125 u126 u127 u128 u129 u130 u131 u132 u133 u134 u135 u136 u137 u138 u139 u140 u141 u142 u143 u144 u145 u146 u147 u148 u149 u150 u151 u152 u153 u154 u155 u156 u157 u158 u159 u160 u161 u162 u163 u164 u165 u166 u167 u168 u169 u170 u171 u172 u173 u174 u175 u176 u177 u178 u179 u180 u181 u182 u183 u184 u185 u186 u187 u188 u189 u190 u191 u192 u193 u194 u195 u196 u197 : Value, (u8 = .bool true ∧ ∃ (c' : Cu) (a' : Option Addr) (ln' cap' : Nat), Hid (St w B B X v1 c' c' a' ln' cap' wx)) ∧ a' = ⟨#[s0, s1, s2, s3, s4, .pointer (some ⟨B, 0, none⟩), .pointer (some ⟨X, 0, none⟩), s7, u8, .pointer (some ⟨D, 0, none⟩), u10, u11, u12, u13, u14, u15, u16, u17, u18, u19, u20, u21, u22, s23, s24, s25, s26, s27, s28, s29, s30, s31, s32, s33, s34, s35, u36, u37, u38, u39, u40, u41, u42, u43, u44, u45, u46, .int .i64 d.kind, u48, u49, u50, u51, u52, u53, u54, u55, u56, u57, u58, u59, u60, u61, u62, u63, u64, u65, u66, u67, u68, u69, u70, u71, u72, u73, u74, u75, u76, u77, u78, u79, u80, u81, u82, u83, u84, u85, u86, u87, u88, u89, u90, u91, u92, u93, u94, u95, u96, u97, u98, u99, u100, u101, u102, u103, u104, u105, u106, u107, u108, u109, u110, u111, u112, u113, u114, u115, u116, u117, u118, u119, u120, u121, u122, u123, u124, u125, u126, u127, u128, u129, u130, u131, u132, u133, u134, u135, u136, u137, u138, u139, u140, u141, u142, u143, u144, u145, u146, u147, u148, u149, u150, u151, u152, u153, u154, u155, u156, u157, u158, u159, u160, u161, u162, u163, u164, u165, u166, u167, u168, u169, u170, u171, u172, u173, u174, u175, u176, u177, u178, u179, u180, u181, u182, u183, u184, u185, u186, u187, u188, u189, u190, u191, u192, u193, u194, u195, u196, u197, s198], []⟩) → J a' wx) (hK : ∀ a' w', Met J a' w' → K' a' w') :
    Code.wp Try.prog switchC (Exit.then K' Q') ⟨#[s0, s1, s2, s3, s4, .pointer (some ⟨B, 0, none⟩), .pointer (some ⟨X, 0, none⟩), s7, .bool true, .pointer (some ⟨D, 0, none⟩), s10, s11, s12, s13, s14, s15, s16, s17, s18, s19, s20, s21, s22, s23, s24, s25, s26, s27, s28, s29, s30, s31, s32, s33, s34, s35, s36, s37, s38, s39, s40, s41, s42, s43, s44, s45, s46, .int .i64 d.kind, s48, s49, s50, s51, s52, s53, s54, s55, s56, s57, s58, s59, s60, s61, s62, s63, s64, s65, s66, s67, s68, s69, s70, s71, s72, s73, s74, s75, s76, s77, s78, s79, s80, s81, s82, s83, s84, s85, s86, s87, s88, s89, s90, s91, s92, s93, s94, s95, s96, s97, s98, s99, s100, s101, s102, s103, s104, s105, s106, s107, s108, s109, s110, s111, s112, s113, s114, s115, s116, s117, s118, s119, s120, s121, s122, s123, s124, s125, s126, s127, s128, s129, s130, s131, s132, s133, s134, s135, s136, s137, s138, s139, s140, s141, s142, s143, s144, s145, s146, s147, s148, s149, s150, s151, s152, s153, s154, s155, s156, s157, s158, s159, s160, s161, s162, s163, s164, s165, s166, s167, s168, s169, s170, s171, s172, s173, s174, s175, s176, s177, s178, s179, s180, s181, s182, s183, s184, s185, s186, s187, s188, s189, s190, s191, s192, s193, s194, s195, s196, s197, s198], []⟩ W := by
  conv => arg 2; whnf
  obtain ⟨k0, k1, k2, k3, k4, k5⟩ := hk
  obtain ⟨⟨y0, y1, y2, y3, y4, y5, y6, y7⟩, -⟩ := cells8 hP.st.blk
  obtain ⟨z0, z1, z2⟩ := hP.deed
  have HP1 : ∀ V, Below W.heap.size W V → Calls Try.prog 21 #[.pointer (some ⟨B, 0, none⟩), .string d.text] V fun e w' => e = .returned (.bool (c.ahead d.text.data.toList)) ∧ Below W.heap.size W w' :=
    fun V hB => (ahead_any (hP.below hB).st.cur d.text).mono fun e w' h => ⟨h.1, hB.trans (h.2.mono hB.size)⟩
  have HP2 : ∀ V, Below W.heap.size W V → Calls Try.prog 22 #[.agg (refC (.slice a1 ln1 cap1) c.ep (c.nest : Int) c.err c.pos), .string d.text] V fun e w' => e = .returned (.bool (c.ahead d.text.data.toList)) ∧ Below W.heap.size W w' :=
    fun V hB => (refahead_any ⟨_, rfl, (hP.below hB).st.row⟩ (hP.below hB).st.size (hP.below hB).st.cur.ok d.text).mono fun e w' h => ⟨h.1, hB.trans (h.2.mono hB.size)⟩
  have KEEP : Hid (∀ wx, Below W.heap.size W wx → Below W.heap.size W wx ∧ wx.cell? ⟨X, 0, none⟩ = some (.slice a1 ln1 cap1) ∧ wx.cell? ⟨X, 1, none⟩ = some (.int .i64 0) ∧ wx.cell? ⟨X, 2, none⟩ = some (.int .i64 c.ep) ∧ wx.cell? ⟨X, 3, none⟩ = some (.int .i64 0) ∧ wx.cell? ⟨X, 4, none⟩ = some (.string ⟨#[]⟩) ∧ wx.cell? ⟨X, 5, none⟩ = some (.int .i64 (c.nest : Int)) ∧ wx.cell? ⟨X, 6, none⟩ = some (.int .i64 c.err) ∧ wx.cell? ⟨X, 7, none⟩ = some (.int .i64 c.pos) ∧ wx.cell? ⟨D, 2, none⟩ = some (.string d.text)) := fun wx hB =>
    have h8 := (cells8 (hP.below hB).st.blk).1
    ⟨hB, h8.1, h8.2.1, h8.2.2.1, h8.2.2.2.1, h8.2.2.2.2.1, h8.2.2.2.2.2.1, h8.2.2.2.2.2.2.1, h8.2.2.2.2.2.2.2, (hP.below hB).deed.2.2⟩
  have FIN : Hid (∀ wx, Below W.heap.size W wx → St w B B X v1 c c a1 ln1 cap1 wx) := fun wx hB => (hP.below hB).st
  clear hP
  generalize c.ahead d.text.data.toList = q at *
  go_upto_region 30 with fail
  go_region_held3 (fun wx => Below W.heap.size W wx ∧ wx.cell? ⟨X, 0, none⟩ = some (.slice a1 ln1 cap1) ∧ wx.cell? ⟨X, 1, none⟩ = some (.int .i64 0) ∧ wx.cell? ⟨X, 2, none⟩ = some (.int .i64 c.ep) ∧ wx.cell? ⟨X, 3, none⟩ = some (.int .i64 0) ∧ wx.cell? ⟨X, 4, none⟩ = some (.string ⟨#[]⟩) ∧ wx.cell? ⟨X, 5, none⟩ = some (.int .i64 (c.nest : Int)) ∧ wx.cell? ⟨X, 6, none⟩ = some (.int .i64 c.err) ∧ wx.cell? ⟨X, 7, none⟩ = some (.int .i64 c.pos) ∧ wx.cell? ⟨D, 2, none⟩ = some (.string d.text))
    (first | exact KEEP.out _ ((Below.refl _ W).drew) | exact KEEP.out _ hacc)
    (first
    | (go_at_call 21; refine (HP1 _ ?_).mono ?_; (first | exact hacc | exact (Below.refl _ W).drew); rintro e w5 ⟨rfl, hacc⟩)
    | (go_at_call 22; refine (HP2 _ ?_).mono ?_; (first | exact hacc | exact (Below.refl _ W).drew); rintro e w6 ⟨rfl, hacc⟩))
  go_wp2_with fail
  go_meet
  exact ⟨by simp, _, _, _, _, FIN.out _ hacc⟩
set_option maxRecDepth 100000 in
set_option maxHeartbeats 8000000 in
theorem arm6 {w : World} {B X D : Nat} {v1 : Value} {d : Dd} {c : Cu} {a1 : Option Addr} {ln1 cap1 : Nat} {W : World} {s0 s1 s2 s3 s4 s7 s10 s11 s12 s13 s14 s15 s16 s17 s18 s19 s20 s21 s22 s23 s24 s25 s26 s27 s28 s29 s30 s31 s32 s33 s34 s35 s36 s37 s38 s39 s40 s41 s42 s43 s44 s45 s46 s48 s49 s50 s51 s52 s53 s54 s55 s56 s57 s58 s59 s60 s61 s62 s63 s64 s65 s66 s67 s68 s69 s70 s71 s72 s73 s74 s75 s76 s77 s78 s79 s80 s81 s82 s83 s84 s85 s86 s87 s88 s89 s90 s91 s92 s93 s94 s95 s96 s97 s98 s99 s100 s101 s102 s103 s104 s105 s106 s107 s108 s109 s110 s111 s112 s113 s114 s115 s116 s117 s118 s119 s120 s121 s122 s123 s124 s125 s126 s127 s128 s129 s130 s131 s132 s133 s134 s135 s136 s137 s138 s139 s140 s141 s142 s143 s144 s145 s146 s147 s148 s149 s150 s151 s152 s153 s154 s155 s156 s157 s158 s159 s160 s161 s162 s163 s164 s165 s166 s167 s168 s169 s170 s171 s172 s173 s174 s175 s176 s177 s178 s179 s180 s181 s182 s183 s184 s185 s186 s187 s188 s189 s190 s191 s192 s193 s194 s195 s196 s197 s198 : Value}
    (hP : Pl w B B X D v1 d c c a1 ln1 cap1 W) (hk : ((d.kind == 0) = false ∧ (d.kind == 1) = false ∧ (d.kind == 2) = false ∧ (d.kind == 3) = false ∧ (d.kind == 4) = false ∧ (d.kind == 5) = false ∧ (d.kind == 6) = true)) (Q' : Exit → Act → World → Prop) (J K' : Act → World → Prop)
    (hJ : ∀ a' wx, (∃ u8 u10 u11 u12 u13 u14 u15 u16 u17 u18 u19 u20 u21 u22 u36 u37 u38 u39 u40 u41 u42 u43 u44 u45 u46 u48 u49 u50 u51 u52 u53 u54 u55 u56 u57 u58 u59 u60 u61 u62 u63 u64 u65 u66 u67 u68 u69 u70 u71 u72 u73 u74 u75 u76 u77 u78 u79 u80 u81 u82 u83 u84 u85 u86 u87 u88 u89 u90 u91 u92 u93 u94 u95 u96 u97 u98 u99 u100 u101 u102 u103 u104 u105 u106 u107 u108 u109 u110 u111 u112 u113 u114 u115 u116 u117 u118 u119 u120 u121 u122 u123 u124 u125 u126 u127 u128 u129 u130 u131 u132 u133 u134 u135 u136 u137 u138 u139 u140 u141 u142 u143 u144 u145 u146 u147 u148 u149 u150 u151 u152 u153 u154 u155 u156 u157 u158 u159 u160 u161 u162 u163 u164 u165 u166 u167 u168 u169 u170 u171 u172 u173 u174 u175 u176 u177 u178 u179 u180 u181 u182 u183 u184 u185 u186 u187 u188 u189 u190 u191 u192 u193 u194 u195 u196 u197 : Value, (u8 = .bool true ∧ ∃ (c' : Cu) (a' : Option Addr) (ln' cap' : Nat), Hid (St w B B X v1 c' c' a' ln' cap' wx)) ∧ a' = ⟨#[s0, s1, s2, s3, s4, .pointer (some ⟨B, 0, none⟩), .pointer (some ⟨X, 0, none⟩), s7, u8, .pointer (some ⟨D, 0, none⟩), u10, u11, u12, u13, u14, u15, u16, u17, u18, u19, u20, u21, u22, s23, s24, s25, s26, s27, s28, s29, s30, s31, s32, s33, s34, s35, u36, u37, u38, u39, u40, u41, u42, u43, u44, u45, u46, .int .i64 d.kind, u48, u49, u50, u51, u52, u53, u54, u55, u56, u57, u58, u59, u60, u61, u62, u63, u64, u65, u66, u67, u68, u69, u70, u71, u72, u73, u74, u75, u76, u77, u78, u79, u80, u81, u82, u83, u84, u85, u86, u87, u88, u89, u90, u91, u92, u93, u94, u95, u96, u97, u98, u99, u100, u101, u102, u103, u104, u105, u106, u107, u108, u109, u110, u111, u112, u113, u114, u115, u116, u117, u118, u119, u120, u121, u122, u123, u124, u125, u126, u127, u128, u129, u130, u131, u132, u133, u134, u135, u136, u137, u138, u139, u140, u141, u142, u143, u144, u145, u146, u147, u148, u149, u150, u151, u152, u153, u154, u155, u156, u157, u158, u159, u160, u161, u162, u163, u164, u165, u166, u167, u168, u169, u170, u171, u172, u173, u174, u175, u176, u177, u178, u179, u180, u181, u182, u183, u184, u185, u186, u187, u188, u189, u190, u191, u192, u193, u194, u195, u196, u197, s198], []⟩) → J a' wx) (hK : ∀ a' w', Met J a' w' → K' a' w') :
    Code.wp Try.prog switchC (Exit.then K' Q') ⟨#[s0, s1, s2, s3, s4, .pointer (some ⟨B, 0, none⟩), .pointer (some ⟨X, 0, none⟩), s7, .bool true, .pointer (some ⟨D, 0, none⟩), s10, s11, s12, s13, s14, s15, s16, s17, s18, s19, s20, s21, s22, s23, s24, s25, s26, s27, s28, s29, s30, s31, s32, s33, s34, s35, s36, s37, s38, s39, s40, s41, s42, s43, s44, s45, s46, .int .i64 d.kind, s48, s49, s50, s51, s52, s53, s54, s55, s56, s57, s58, s59, s60, s61, s62, s63, s64, s65, s66, s67, s68, s69, s70, s71, s72, s73, s74, s75, s76, s77, s78, s79, s80, s81, s82, s83, s84, s85, s86, s87, s88, s89, s90, s91, s92, s93, s94, s95, s96, s97, s98, s99, s100, s101, s102, s103, s104, s105, s106, s107, s108, s109, s110, s111, s112, s113, s114, s115, s116, s117, s118, s119, s120, s121, s122, s123, s124, s125, s126, s127, s128, s129, s130, s131, s132, s133, s134, s135, s136, s137, s138, s139, s140, s141, s142, s143, s144, s145, s146, s147, s148, s149, s150, s151, s152, s153, s154, s155, s156, s157, s158, s159, s160, s161, s162, s163, s164, s165, s166, s167, s168, s169, s170, s171, s172, s173, s174, s175, s176, s177, s178, s179, s180, s181, s182, s183, s184, s185, s186, s187, s188, s189, s190, s191, s192, s193, s194, s195, s196, s197, s198], []⟩ W := by
  conv => arg 2; whnf
  obtain ⟨k0, k1, k2, k3, k4, k5, k6⟩ := hk
  obtain ⟨⟨y0, y1, y2, y3, y4, y5, y6, y7⟩, -⟩ := cells8 hP.st.blk
  obtain ⟨z0, z1, z2⟩ := hP.deed
  have HR := refenter_any ⟨_, rfl, hP.st.row⟩ hP.st.size hP.st.cur.ok
  go_wp2_with fail
  refine HR.mono ?_; rintro e w5 ⟨x', rfl, hx, hB⟩
  obtain ⟨a2, ln2, cap2, rfl, hr, -⟩ := hx.shape
  have hP := hP.below hB
  have hws := enter_ws c
  have HT := fun (V : World) (hc : CurAt V B v1 c) => enter_any hc
  clear HR hB hx y0 y1 y2 y3 y4 y5 y6 y7 z0 z1 z2
  generalize c.enter = c' at *
  generalize c.enters = q at *
  have hbx : Below w5.heap.size w5 (w5.alloc (.cells (refC (.slice a2 ln2 cap2) c'.ep (c'.nest : Int) c'.err c'.pos) 31)) := (Below.refl _ w5).alloc (Nat.le_refl _) _
  have hr := hr.out.below (hbx.mono hP.st.size)
  have hP := hP.below hbx
  clear hbx
  obtain ⟨⟨y0, y1, y2, y3, y4, y5, y6, y7⟩, t0, t1, t2, t3, t4, t5, t6, t7⟩ := cells8 hP.st.blk
  have hP := hP.store hr
  have HT := HT _ hP.st.cur
  obtain ⟨z0, z1, z2⟩ := hP.deed
  unfold putC at hP HT z0 z1 z2
  clear hr
  go_wp2_with fail
  refine HT.mono ?_; rintro e w6 ⟨rfl, hc6, hg6⟩
  have hP := hP.moved hc6 hg6 hws
  clear HT hc6 hg6 hws y0 y1 y2 y3 y4 y5 y6 y7 z0 z1 z2 t0 t1 t2 t3 t4 t5 t6 t7
  go_wp2_with fail
  go_meet
  exact ⟨by simp, _, _, _, _, hP.st⟩
set_option maxRecDepth 100000 in
set_option maxHeartbeats 8000000 in
theorem arm7 {w : World} {B X D : Nat} {v1 : Value} {d : Dd} {c : Cu} {a1 : Option Addr} {ln1 cap1 : Nat} {W : World} {s0 s1 s2 s3 s4 s7 s10 s11 s12 s13 s14 s15 s16 s17 s18 s19 s20 s21 s22 s23 s24 s25 s26 s27 s28 s29 s30 s31 s32 s33 s34 s35 s36 s37 s38 s39 s40 s41 s42 s43 s44 s45 s46 s48 s49 s50 s51 s52 s53 s54 s55 s56 s57 s58 s59 s60 s61 s62 s63 s64 s65 s66 s67 s68 s69 s70 s71 s72 s73 s74 s75 s76 s77 s78 s79 s80 s81 s82 s83 s84 s85 s86 s87 s88 s89 s90 s91 s92 s93 s94 s95 s96 s97 s98 s99 s100 s101 s102 s103 s104 s105 s106 s107 s108 s109 s110 s111 s112 s113 s114 s115 s116 s117 s118 s119 s120 s121 s122 s123 s124 s125 s126 s127 s128 s129 s130 s131 s132 s133 s134 s135 s136 s137 s138 s139 s140 s141 s142 s143 s144 s145 s146 s147 s148 s149 s150 s151 s152 s153 s154 s155 s156 s157 s158 s159 s160 s161 s162 s163 s164 s165 s166 s167 s168 s169 s170 s171 s172 s173 s174 s175 s176 s177 s178 s179 s180 s181 s182 s183 s184 s185 s186 s187 s188 s189 s190 s191 s192 s193 s194 s195 s196 s197 s198 : Value}
    (hP : Pl w B B X D v1 d c c a1 ln1 cap1 W) (hk : ((d.kind == 0) = false ∧ (d.kind == 1) = false ∧ (d.kind == 2) = false ∧ (d.kind == 3) = false ∧ (d.kind == 4) = false ∧ (d.kind == 5) = false ∧ (d.kind == 6) = false ∧ (d.kind == 7) = true)) (Q' : Exit → Act → World → Prop) (J K' : Act → World → Prop)
    (hJ : ∀ a' wx, (∃ u8 u10 u11 u12 u13 u14 u15 u16 u17 u18 u19 u20 u21 u22 u36 u37 u38 u39 u40 u41 u42 u43 u44 u45 u46 u48 u49 u50 u51 u52 u53 u54 u55 u56 u57 u58 u59 u60 u61 u62 u63 u64 u65 u66 u67 u68 u69 u70 u71 u72 u73 u74 u75 u76 u77 u78 u79 u80 u81 u82 u83 u84 u85 u86 u87 u88 u89 u90 u91 u92 u93 u94 u95 u96 u97 u98 u99 u100 u101 u102 u103 u104 u105 u106 u107 u108 u109 u110 u111 u112 u113 u114 u115 u116 u117 u118 u119 u120 u121 u122 u123 u124 u125 u126 u127 u128 u129 u130 u131 u132 u133 u134 u135 u136 u137 u138 u139 u140 u141 u142 u143 u144 u145 u146 u147 u148 u149 u150 u151 u152 u153 u154 u155 u156 u157 u158 u159 u160 u161 u162 u163 u164 u165 u166 u167 u168 u169 u170 u171 u172 u173 u174 u175 u176 u177 u178 u179 u180 u181 u182 u183 u184 u185 u186 u187 u188 u189 u190 u191 u192 u193 u194 u195 u196 u197 : Value, (u8 = .bool true ∧ ∃ (c' : Cu) (a' : Option Addr) (ln' cap' : Nat), Hid (St w B B X v1 c' c' a' ln' cap' wx)) ∧ a' = ⟨#[s0, s1, s2, s3, s4, .pointer (some ⟨B, 0, none⟩), .pointer (some ⟨X, 0, none⟩), s7, u8, .pointer (some ⟨D, 0, none⟩), u10, u11, u12, u13, u14, u15, u16, u17, u18, u19, u20, u21, u22, s23, s24, s25, s26, s27, s28, s29, s30, s31, s32, s33, s34, s35, u36, u37, u38, u39, u40, u41, u42, u43, u44, u45, u46, .int .i64 d.kind, u48, u49, u50, u51, u52, u53, u54, u55, u56, u57, u58, u59, u60, u61, u62, u63, u64, u65, u66, u67, u68, u69, u70, u71, u72, u73, u74, u75, u76, u77, u78, u79, u80, u81, u82, u83, u84, u85, u86, u87, u88, u89, u90, u91, u92, u93, u94, u95, u96, u97, u98, u99, u100, u101, u102, u103, u104, u105, u106, u107, u108, u109, u110, u111, u112, u113, u114, u115, u116, u117, u118, u119, u120, u121, u122, u123, u124, u125, u126, u127, u128, u129, u130, u131, u132, u133, u134, u135, u136, u137, u138, u139, u140, u141, u142, u143, u144, u145, u146, u147, u148, u149, u150, u151, u152, u153, u154, u155, u156, u157, u158, u159, u160, u161, u162, u163, u164, u165, u166, u167, u168, u169, u170, u171, u172, u173, u174, u175, u176, u177, u178, u179, u180, u181, u182, u183, u184, u185, u186, u187, u188, u189, u190, u191, u192, u193, u194, u195, u196, u197, s198], []⟩) → J a' wx) (hK : ∀ a' w', Met J a' w' → K' a' w') :
    Code.wp Try.prog switchC (Exit.then K' Q') ⟨#[s0, s1, s2, s3, s4, .pointer (some ⟨B, 0, none⟩), .pointer (some ⟨X, 0, none⟩), s7, .bool true, .pointer (some ⟨D, 0, none⟩), s10, s11, s12, s13, s14, s15, s16, s17, s18, s19, s20, s21, s22, s23, s24, s25, s26, s27, s28, s29, s30, s31, s32, s33, s34, s35, s36, s37, s38, s39, s40, s41, s42, s43, s44, s45, s46, .int .i64 d.kind, s48, s49, s50, s51, s52, s53, s54, s55, s56, s57, s58, s59, s60, s61, s62, s63, s64, s65, s66, s67, s68, s69, s70, s71, s72, s73, s74, s75, s76, s77, s78, s79, s80, s81, s82, s83, s84, s85, s86, s87, s88, s89, s90, s91, s92, s93, s94, s95, s96, s97, s98, s99, s100, s101, s102, s103, s104, s105, s106, s107, s108, s109, s110, s111, s112, s113, s114, s115, s116, s117, s118, s119, s120, s121, s122, s123, s124, s125, s126, s127, s128, s129, s130, s131, s132, s133, s134, s135, s136, s137, s138, s139, s140, s141, s142, s143, s144, s145, s146, s147, s148, s149, s150, s151, s152, s153, s154, s155, s156, s157, s158, s159, s160, s161, s162, s163, s164, s165, s166, s167, s168, s169, s170, s171, s172, s173, s174, s175, s176, s177, s178, s179, s180, s181, s182, s183, s184, s185, s186, s187, s188, s189, s190, s191, s192, s193, s194, s195, s196, s197, s198], []⟩ W := by
  conv => arg 2; whnf
  obtain ⟨k0, k1, k2, k3, k4, k5, k6, k7⟩ := hk
  have hok := hP.st.cur.ok
  have HT := leave_any hP.st.cur
  have hws := leave_ws c
  go_wp2_with fail
  refine HT.mono ?_; rintro e w5 ⟨⟨r, rfl⟩, hc5, hg5⟩
  have hP := hP.moved hc5 hg5 hws
  clear HT hc5 hg5 hws
  obtain ⟨⟨y0, y1, y2, y3, y4, y5, y6, y7⟩, -⟩ := cells8 hP.st.blk
  have HR := refleave_any ⟨_, rfl, hP.st.row⟩ hP.st.size hok
  generalize c.leave = c' at *
  go_wp2_with fail
  refine HR.mono ?_; rintro e w6 ⟨x', rfl, hx, hB⟩
  obtain ⟨a2, ln2, cap2, rfl, hr, -⟩ := hx.shape
  have hP := hP.below hB
  clear HR hB hx y0 y1 y2 y3 y4 y5 y6 y7
  obtain ⟨⟨y0, y1, y2, y3, y4, y5, y6, y7⟩, t0, t1, t2, t3, t4, t5, t6, t7⟩ := cells8 hP.st.blk
  have hP := hP.store (e' := c') hr.out
  unfold putC at hP
  clear hr
  go_wp2_with fail
  go_meet
  exact ⟨rfl, _, _, _, _, hP.st⟩
set_option maxRecDepth 100000 in
set_option maxHeartbeats 8000000 in
theorem arm8 {w : World} {B X D : Nat} {v1 : Value} {d : Dd} {c : Cu} {a1 : Option Addr} {ln1 cap1 : Nat} {W : World} {s0 s1 s2 s3 s4 s7 s10 s11 s12 s13 s14 s15 s16 s17 s18 s19 s20 s21 s22 s23 s24 s25 s26 s27 s28 s29 s30 s31 s32 s33 s34 s35 s36 s37 s38 s39 s40 s41 s42 s43 s44 s45 s46 s48 s49 s50 s51 s52 s53 s54 s55 s56 s57 s58 s59 s60 s61 s62 s63 s64 s65 s66 s67 s68 s69 s70 s71 s72 s73 s74 s75 s76 s77 s78 s79 s80 s81 s82 s83 s84 s85 s86 s87 s88 s89 s90 s91 s92 s93 s94 s95 s96 s97 s98 s99 s100 s101 s102 s103 s104 s105 s106 s107 s108 s109 s110 s111 s112 s113 s114 s115 s116 s117 s118 s119 s120 s121 s122 s123 s124 s125 s126 s127 s128 s129 s130 s131 s132 s133 s134 s135 s136 s137 s138 s139 s140 s141 s142 s143 s144 s145 s146 s147 s148 s149 s150 s151 s152 s153 s154 s155 s156 s157 s158 s159 s160 s161 s162 s163 s164 s165 s166 s167 s168 s169 s170 s171 s172 s173 s174 s175 s176 s177 s178 s179 s180 s181 s182 s183 s184 s185 s186 s187 s188 s189 s190 s191 s192 s193 s194 s195 s196 s197 s198 : Value}
    (hP : Pl w B B X D v1 d c c a1 ln1 cap1 W) (hk : ((d.kind == 0) = false ∧ (d.kind == 1) = false ∧ (d.kind == 2) = false ∧ (d.kind == 3) = false ∧ (d.kind == 4) = false ∧ (d.kind == 5) = false ∧ (d.kind == 6) = false ∧ (d.kind == 7) = false ∧ (d.kind == 8) = true)) (Q' : Exit → Act → World → Prop) (J K' : Act → World → Prop)
    (hJ : ∀ a' wx, (∃ u8 u10 u11 u12 u13 u14 u15 u16 u17 u18 u19 u20 u21 u22 u36 u37 u38 u39 u40 u41 u42 u43 u44 u45 u46 u48 u49 u50 u51 u52 u53 u54 u55 u56 u57 u58 u59 u60 u61 u62 u63 u64 u65 u66 u67 u68 u69 u70 u71 u72 u73 u74 u75 u76 u77 u78 u79 u80 u81 u82 u83 u84 u85 u86 u87 u88 u89 u90 u91 u92 u93 u94 u95 u96 u97 u98 u99 u100 u101 u102 u103 u104 u105 u106 u107 u108 u109 u110 u111 u112 u113 u114 u115 u116 u117 u118 u119 u120 u121 u122 u123 u124 u125 u126 u127 u128 u129 u130 u131 u132 u133 u134 u135 u136 u137 u138 u139 u140 u141 u142 u143 u144 u145 u146 u147 u148 u149 u150 u151 u152 u153 u154 u155 u156 u157 u158 u159 u160 u161 u162 u163 u164 u165 u166 u167 u168 u169 u170 u171 u172 u173 u174 u175 u176 u177 u178 u179 u180 u181 u182 u183 u184 u185 u186 u187 u188 u189 u190 u191 u192 u193 u194 u195 u196 u197 : Value, (u8 = .bool true ∧ ∃ (c' : Cu) (a' : Option Addr) (ln' cap' : Nat), Hid (St w B B X v1 c' c' a' ln' cap' wx)) ∧ a' = ⟨#[s0, s1, s2, s3, s4, .pointer (some ⟨B, 0, none⟩), .pointer (some ⟨X, 0, none⟩), s7, u8, .pointer (some ⟨D, 0, none⟩), u10, u11, u12, u13, u14, u15, u16, u17, u18, u19, u20, u21, u22, s23, s24, s25, s26, s27, s28, s29, s30, s31, s32, s33, s34, s35, u36, u37, u38, u39, u40, u41, u42, u43, u44, u45, u46, .int .i64 d.kind, u48, u49, u50, u51, u52, u53, u54, u55, u56, u57, u58, u59, u60, u61, u62, u63, u64, u65, u66, u67, u68, u69, u70, u71, u72, u73, u74, u75, u76, u77, u78, u79, u80, u81, u82, u83, u84, u85, u86, u87, u88, u89, u90, u91, u92, u93, u94, u95, u96, u97, u98, u99, u100, u101, u102, u103, u104, u105, u106, u107, u108, u109, u110, u111, u112, u113, u114, u115, u116, u117, u118, u119, u120, u121, u122, u123, u124, u125, u126, u127, u128, u129, u130, u131, u132, u133, u134, u135, u136, u137, u138, u139, u140, u141, u142, u143, u144, u145, u146, u147, u148, u149, u150, u151, u152, u153, u154, u155, u156, u157, u158, u159, u160, u161, u162, u163, u164, u165, u166, u167, u168, u169, u170, u171, u172, u173, u174, u175, u176, u177, u178, u179, u180, u181, u182, u183, u184, u185, u186, u187, u188, u189, u190, u191, u192, u193, u194, u195, u196, u197, s198], []⟩) → J a' wx) (hK : ∀ a' w', Met J a' w' → K' a' w') :
    Code.wp Try.prog switchC (Exit.then K' Q') ⟨#[s0, s1, s2, s3, s4, .pointer (some ⟨B, 0, none⟩), .pointer (some ⟨X, 0, none⟩), s7, .bool true, .pointer (some ⟨D, 0, none⟩), s10, s11, s12, s13, s14, s15, s16, s17, s18, s19, s20, s21, s22, s23, s24, s25, s26, s27, s28, s29, s30, s31, s32, s33, s34, s35, s36, s37, s38, s39, s40, s41, s42, s43, s44, s45, s46, .int .i64 d.kind, s48, s49, s50, s51, s52, s53, s54, s55, s56, s57, s58, s59, s60, s61, s62, s63, s64, s65, s66, s67, s68, s69, s70, s71, s72, s73, s74, s75, s76, s77, s78, s79, s80, s81, s82, s83, s84, s85, s86, s87, s88, s89, s90, s91, s92, s93, s94, s95, s96, s97, s98, s99, s100, s101, s102, s103, s104, s105, s106, s107, s108, s109, s110, s111, s112, s113, s114, s115, s116, s117, s118, s119, s120, s121, s122, s123, s124, s125, s126, s127, s128, s129, s130, s131, s132, s133, s134, s135, s136, s137, s138, s139, s140, s141, s142, s143, s144, s145, s146, s147, s148, s149, s150, s151, s152, s153, s154, s155, s156, s157, s158, s159, s160, s161, s162, s163, s164, s165, s166, s167, s168, s169, s170, s171, s172, s173, s174, s175, s176, s177, s178, s179, s180, s181, s182, s183, s184, s185, s186, s187, s188, s189, s190, s191, s192, s193, s194, s195, s196, s197, s198], []⟩ W := by
  conv => arg 2; whnf
  obtain ⟨k0, k1, k2, k3, k4, k5, k6, k7, k8⟩ := hk
  obtain ⟨⟨y0, y1, y2, y3, y4, y5, y6, y7⟩, -⟩ := cells8 hP.st.blk
  obtain ⟨z0, z1, z2⟩ := hP.deed
  have HR := reffail_any ⟨_, rfl, hP.st.row⟩ hP.st.size d.num
  go_wp2_with fail
  refine HR.mono ?_; rintro e w5 ⟨x', rfl, hx, hB⟩
  obtain ⟨a2, ln2, cap2, rfl, hr, -⟩ := hx.shape
  have hP := hP.below hB
  clear HR hB hx y0 y1 y2 y3 y4 y5 y6 y7 z0 z1 z2
  obtain ⟨⟨y0, y1, y2, y3, y4, y5, y6, y7⟩, t0, t1, t2, t3, t4, t5, t6, t7⟩ := cells8 hP.st.blk
  have hP := hP.store (e' := c.fail d.num) hr.out
  have HF := fail_any hP.st.cur d.num
  have hws := fail_ws c d.num
  obtain ⟨z0, z1, z2⟩ := hP.deed
  unfold putC at hP HF z0 z1 z2
  clear hr
  generalize c.fail d.num = c' at *
  go_wp2_with fail
  refine HF.mono ?_; rintro e w6 ⟨rfl, hc6, hg6⟩
  have hP := hP.moved hc6 hg6 hws
  clear HF hc6 hg6 hws y0 y1 y2 y3 y4 y5 y6 y7 z0 z1 z2 t0 t1 t2 t3 t4 t5 t6 t7
  go_wp2_with fail
  go_meet
  exact ⟨rfl, _, _, _, _, hP.st⟩
set_option maxRecDepth 100000 in
set_option maxHeartbeats 8000000 in
theorem arm9 {w : World} {B X D : Nat} {v1 : Value} {d : Dd} {c : Cu} {a1 : Option Addr} {ln1 cap1 : Nat} {W : World} {s0 s1 s2 s3 s4 s7 s10 s11 s12 s13 s14 s15 s16 s17 s18 s19 s20 s21 s22 s23 s24 s25 s26 s27 s28 s29 s30 s31 s32 s33 s34 s35 s36 s37 s38 s39 s40 s41 s42 s43 s44 s45 s46 s48 s49 s50 s51 s52 s53 s54 s55 s56 s57 s58 s59 s60 s61 s62 s63 s64 s65 s66 s67 s68 s69 s70 s71 s72 s73 s74 s75 s76 s77 s78 s79 s80 s81 s82 s83 s84 s85 s86 s87 s88 s89 s90 s91 s92 s93 s94 s95 s96 s97 s98 s99 s100 s101 s102 s103 s104 s105 s106 s107 s108 s109 s110 s111 s112 s113 s114 s115 s116 s117 s118 s119 s120 s121 s122 s123 s124 s125 s126 s127 s128 s129 s130 s131 s132 s133 s134 s135 s136 s137 s138 s139 s140 s141 s142 s143 s144 s145 s146 s147 s148 s149 s150 s151 s152 s153 s154 s155 s156 s157 s158 s159 s160 s161 s162 s163 s164 s165 s166 s167 s168 s169 s170 s171 s172 s173 s174 s175 s176 s177 s178 s179 s180 s181 s182 s183 s184 s185 s186 s187 s188 s189 s190 s191 s192 s193 s194 s195 s196 s197 s198 : Value}
    (hP : Pl w B B X D v1 d c c a1 ln1 cap1 W) (hk : ((d.kind == 0) = false ∧ (d.kind == 1) = false ∧ (d.kind == 2) = false ∧ (d.kind == 3) = false ∧ (d.kind == 4) = false ∧ (d.kind == 5) = false ∧ (d.kind == 6) = false ∧ (d.kind == 7) = false ∧ (d.kind == 8) = false)) (Q' : Exit → Act → World → Prop) (J K' : Act → World → Prop)
    (hJ : ∀ a' wx, (∃ u8 u10 u11 u12 u13 u14 u15 u16 u17 u18 u19 u20 u21 u22 u36 u37 u38 u39 u40 u41 u42 u43 u44 u45 u46 u48 u49 u50 u51 u52 u53 u54 u55 u56 u57 u58 u59 u60 u61 u62 u63 u64 u65 u66 u67 u68 u69 u70 u71 u72 u73 u74 u75 u76 u77 u78 u79 u80 u81 u82 u83 u84 u85 u86 u87 u88 u89 u90 u91 u92 u93 u94 u95 u96 u97 u98 u99 u100 u101 u102 u103 u104 u105 u106 u107 u108 u109 u110 u111 u112 u113 u114 u115 u116 u117 u118 u119 u120 u121 u122 u123 u124 u125 u126 u127 u128 u129 u130 u131 u132 u133 u134 u135 u136 u137 u138 u139 u140 u141 u142 u143 u144 u145 u146 u147 u148 u149 u150 u151 u152 u153 u154 u155 u156 u157 u158 u159 u160 u161 u162 u163 u164 u165 u166 u167 u168 u169 u170 u171 u172 u173 u174 u175 u176 u177 u178 u179 u180 u181 u182 u183 u184 u185 u186 u187 u188 u189 u190 u191 u192 u193 u194 u195 u196 u197 : Value, (u8 = .bool true ∧ ∃ (c' : Cu) (a' : Option Addr) (ln' cap' : Nat), Hid (St w B B X v1 c' c' a' ln' cap' wx)) ∧ a' = ⟨#[s0, s1, s2, s3, s4, .pointer (some ⟨B, 0, none⟩), .pointer (some ⟨X, 0, none⟩), s7, u8, .pointer (some ⟨D, 0, none⟩), u10, u11, u12, u13, u14, u15, u16, u17, u18, u19, u20, u21, u22, s23, s24, s25, s26, s27, s28, s29, s30, s31, s32, s33, s34, s35, u36, u37, u38, u39, u40, u41, u42, u43, u44, u45, u46, .int .i64 d.kind, u48, u49, u50, u51, u52, u53, u54, u55, u56, u57, u58, u59, u60, u61, u62, u63, u64, u65, u66, u67, u68, u69, u70, u71, u72, u73, u74, u75, u76, u77, u78, u79, u80, u81, u82, u83, u84, u85, u86, u87, u88, u89, u90, u91, u92, u93, u94, u95, u96, u97, u98, u99, u100, u101, u102, u103, u104, u105, u106, u107, u108, u109, u110, u111, u112, u113, u114, u115, u116, u117, u118, u119, u120, u121, u122, u123, u124, u125, u126, u127, u128, u129, u130, u131, u132, u133, u134, u135, u136, u137, u138, u139, u140, u141, u142, u143, u144, u145, u146, u147, u148, u149, u150, u151, u152, u153, u154, u155, u156, u157, u158, u159, u160, u161, u162, u163, u164, u165, u166, u167, u168, u169, u170, u171, u172, u173, u174, u175, u176, u177, u178, u179, u180, u181, u182, u183, u184, u185, u186, u187, u188, u189, u190, u191, u192, u193, u194, u195, u196, u197, s198], []⟩) → J a' wx) (hK : ∀ a' w', Met J a' w' → K' a' w') :
    Code.wp Try.prog switchC (Exit.then K' Q') ⟨#[s0, s1, s2, s3, s4, .pointer (some ⟨B, 0, none⟩), .pointer (some ⟨X, 0, none⟩), s7, .bool true, .pointer (some ⟨D, 0, none⟩), s10, s11, s12, s13, s14, s15, s16, s17, s18, s19, s20, s21, s22, s23, s24, s25, s26, s27, s28, s29, s30, s31, s32, s33, s34, s35, s36, s37, s38, s39, s40, s41, s42, s43, s44, s45, s46, .int .i64 d.kind, s48, s49, s50, s51, s52, s53, s54, s55, s56, s57, s58, s59, s60, s61, s62, s63, s64, s65, s66, s67, s68, s69, s70, s71, s72, s73, s74, s75, s76, s77, s78, s79, s80, s81, s82, s83, s84, s85, s86, s87, s88, s89, s90, s91, s92, s93, s94, s95, s96, s97, s98, s99, s100, s101, s102, s103, s104, s105, s106, s107, s108, s109, s110, s111, s112, s113, s114, s115, s116, s117, s118, s119, s120, s121, s122, s123, s124, s125, s126, s127, s128, s129, s130, s131, s132, s133, s134, s135, s136, s137, s138, s139, s140, s141, s142, s143, s144, s145, s146, s147, s148, s149, s150, s151, s152, s153, s154, s155, s156, s157, s158, s159, s160, s161, s162, s163, s164, s165, s166, s167, s168, s169, s170, s171, s172, s173, s174, s175, s176, s177, s178, s179, s180, s181, s182, s183, s184, s185, s186, s187, s188, s189, s190, s191, s192, s193, s194, s195, s196, s197, s198], []⟩ W := by
  conv => arg 2; whnf
  obtain ⟨k0, k1, k2, k3, k4, k5, k6, k7, k8⟩ := hk
  go_wp2_with fail
  go_meet
  exact ⟨rfl, _, _, _, _, hP.st⟩
end Go.Proofs.Ytehcccjgepbnjaa
