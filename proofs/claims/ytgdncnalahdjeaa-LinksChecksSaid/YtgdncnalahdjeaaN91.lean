/- The reference's Check: a round, a link of kind 1. -/
import Derived.Test.YtgdncnalahdjeaaJQ5
namespace Go.Proofs.Ytgdncnalahdjeaa
open Go Go.RowKit

set_option maxRecDepth 1000000 in
set_option maxHeartbeats 4000000 in
theorem ref38_1 (p : Option Addr) (n c : Nat) (d : VD) (q : Option Addr) (m e : Nat) (a : AD) (b off N cs j base : Nat) (Tt A B I J : Int) (P : Option Addr) (L C : Nat) (V : Nat → Int) (ts0 : List (Int × Int)) (ls0 : List Int) (v8 v9 : Value) (last : Bool) (w1 wo : World) (K0 : Act → World → Prop) (Q0 : Exit → Act → World → Prop)
    (z3 z4 z5 z6 z7 z11 z12 z13 z14 z15 z16 z17 z18 z19 z20 z21 z22 z23 z24 z25 z26 z27 z28 z29 z30 z31 z32 z33 z34 z35 z36 z37 z38 z39 z40 z41 z42 z43 z44 z45 z46 z47 z48 z49 z50 z51 z52 z53 z54 z55 z56 z57 z58 z59 z60 z61 z62 z63 z64 z65 z66 z67 z68 z69 z70 z71 z72 z73 z74 z75 z76 z77 z78 z79 z80 z81 z82 z83 z84 z85 z86 z87 z88 z89 z90 z91 z92 z93 z94 z95 z96 z97 z98 z99 z100 z101 z102 z103 z104 z105 z106 z107 z108 z109 z110 z111 z112 z113 z114 z115 z116 z117 z118 z119 z120 z121 z122 z123 z124 z125 z126 z127 z128 z129 z130 z131 z132 z133 z134 z135 z136 z137 z138 z139 z140 z141 z142 z143 z144 z145 z146 z147 z148 z149 z150 z151 z152 z153 z154 z155 z156 z157 z158 z159 z160 z161 z162 z163 z164 z165 z166 z167 z168 z169 z170 z171 z172 z173 z174 z175 z176 z177 z178 z179 z180 z181 z182 z183 z184 z185 z186 z187 z188 z189 z190 z191 z192 z193 z194 z195 z196 z197 z198 z199 z200 z201 z202 z203 z204 z205 z206 z207 z208 z209 z210 z211 z212 z213 z214 z215 z216 z217 z218 z219 z220 z221 z222 z223 z224 z225 z226 z227 z228 z229 z230 z231 z232 z233 z234 z235 z236 z237 z238 z239 z240 z241 z242 z243 z244 z245 z246 z247 z248 z249 z250 z251 z252 z253 z254 z255 z256 z257 z258 z259 z260 z261 z262 z263 z264 z265 z266 z267 z268 z269 z270 z271 z272 z273 z274 z275 z276 z277 z278 z279 z280 z281 z282 z283 z284 z285 z286 z287 z288 z289 z290 z291 z292 z293 z294 z295 z296 z297 z298 z299 z300 z301 z302 z303 z304 z305 z306 z307 z308 z309 z310 z311 z312 z313 z314 z315 z316 z317 z318 z319 z320 z321 z322 z323 z324 z325 z326 z327 z328 z329 z330 z331 z332 z333 z334 z335 z336 z337 z338 z339 z340 z341 z342 z343 z344 z345 z346 z347 z348 z349 z350 z351 z352 z353 z354 z355 z356 z357 z358 z359 z360 z361 z362 z363 z364 z365 z366 : Value)
    (hd : VertsIn w1 p n d) (ha : AtomsIn w1 q m a) (hm : m ≤ 1000000) (_hn2 : n ≤ 20000) (hN : N ≤ 300) (hlt : j < N) (hbase : base = w1.heap.size) (hB : Below w1.heap.size w1 wo)
    (ck : wo.cell? ⟨b, off + j * 7, none⟩ = some (.int .u8 1)) (ct : wo.cell? ⟨b, off + j * 7 + 1, none⟩ = some (.int .i64 Tt)) (cA : wo.cell? ⟨b, off + j * 7 + 2, none⟩ = some (.int .i64 A)) (cB : wo.cell? ⟨b, off + j * 7 + 3, none⟩ = some (.int .i64 B)) (ci : wo.cell? ⟨b, off + j * 7 + 4, none⟩ = some (.int .i64 I)) (cj : wo.cell? ⟨b, off + j * 7 + 5, none⟩ = some (.int .i64 J)) (cp : wo.cell? ⟨b, off + j * 7 + 6, none⟩ = some (.slice P L C))
    (hV : LitsIn w1 P L V) (hL : L ≤ 30) (hra : RefAt wo base v8 v9 ts0 ls0) (hts : ts0.length = j) (hls : ls0.length ≤ j) (htt : -9223372036854775808 ≤ Tt ∧ Tt ≤ 9223372036854775807) (hla : ((j : Int) == (N : Int) - 1) = last)
    (hnext : ∀ (v8' v9' : Value) (x y : Int) (ls' : List Int) (W' : World) (y6 y7 y11 y12 y13 y14 y15 y16 y17 y18 y19 y20 y21 y22 y23 y31 y32 y33 y34 y35 y36 y37 y38 y39 y40 y41 y42 y43 y44 y45 y46 y47 y48 y49 y50 y51 y52 y53 y54 y55 y56 y57 y58 y59 y60 y61 y62 y63 y64 y65 y66 y67 y68 y69 y70 y71 y72 y73 y74 y75 y76 y77 y78 y79 y80 y81 y82 y83 y84 y85 y86 y87 y88 y89 y90 y91 y92 y93 y94 y95 y96 y97 y98 y99 y100 y101 y102 y103 y104 y105 y106 y107 y108 y109 y110 y111 y112 y113 y114 y115 y116 y117 y118 y119 y120 y121 y122 y123 y124 y125 y126 y127 y128 y129 y130 y131 y132 y133 y134 y135 y136 y137 y138 y139 y140 y141 y142 y143 y144 y145 y146 y147 y148 y149 y150 y151 y152 y153 y154 y155 y156 y157 y158 y159 y160 y161 y162 y163 y164 y165 y166 y167 y168 y169 y170 y171 y172 y173 y174 y175 y176 y177 y178 y179 y180 y181 y182 y183 y184 y185 y186 y187 y188 y189 y190 y191 y192 y193 y194 y195 y196 y197 y198 y199 y200 y201 y202 y203 y204 y205 y206 y207 y208 y209 y210 y211 y212 y213 y214 y215 y216 y217 y218 y219 y220 y221 y222 y223 y224 y225 y226 y227 y228 y229 y230 y231 y232 y233 y234 y235 y236 y237 y238 y239 y240 y241 y242 y243 y244 y245 y246 y247 y248 y249 y250 y251 y252 y253 y254 y255 y256 y257 y258 y259 y260 y261 y262 y263 y264 y265 y266 y267 y268 y269 y270 y271 y272 y273 y274 y275 y276 y277 y278 y279 y280 y281 y282 y283 y284 y285 y286 y287 y288 y289 y290 y291 y292 y293 y294 y295 y296 y297 y298 y299 y300 y301 y302 y303 y304 y305 y306 y307 y308 y309 y310 y311 y312 y313 y314 y315 y316 y317 y318 y319 y320 y321 y322 y323 y324 y325 y326 y327 y328 y329 y330 y331 y332 y333 y334 y335 y336 y337 y338 y339 y340 y341 y342 y343 y344 y345 y346 y347 y348 y349 y350 y351 y352 y353 y354 y355 y356 y357 y358 : Value), ((last = false ∧ (conclL n d m a ts0 1 Tt A B I J L V).2 = true ∧ (x, y) = (conclL n d m a ts0 1 Tt A B I J L V).1 ∧ ls' = litsT 1 Tt ls0) ∨ (last = true ∧ closeL m a ts0 1 Tt I = true ∧ ls' = closeT ts0 1 Tt I ls0)) → Below w1.heap.size w1 W' → RefAt W' base v8' v9' (ts0 ++ [(x, y)]) ls' → K0 ⟨#[.slice p n c, .slice q m e, .slice (some ⟨b, off, none⟩) N cs, z3, z4, z5, y6, y7, v8', v9', .int .i64 ((j + 1 : Nat) : Int), y11, y12, y13, y14, y15, y16, y17, y18, y19, y20, y21, y22, y23, z24, z25, z26, z27, z28, z29, z30, y31, y32, y33, y34, y35, y36, y37, y38, y39, y40, y41, y42, y43, y44, y45, y46, y47, y48, y49, y50, y51, y52, y53, y54, y55, y56, y57, y58, y59, y60, y61, y62, y63, y64, y65, y66, y67, y68, y69, y70, y71, y72, y73, y74, y75, y76, y77, y78, y79, y80, y81, y82, y83, y84, y85, y86, y87, y88, y89, y90, y91, y92, y93, y94, y95, y96, y97, y98, y99, y100, y101, y102, y103, y104, y105, y106, y107, y108, y109, y110, y111, y112, y113, y114, y115, y116, y117, y118, y119, y120, y121, y122, y123, y124, y125, y126, y127, y128, y129, y130, y131, y132, y133, y134, y135, y136, y137, y138, y139, y140, y141, y142, y143, y144, y145, y146, y147, y148, y149, y150, y151, y152, y153, y154, y155, y156, y157, y158, y159, y160, y161, y162, y163, y164, y165, y166, y167, y168, y169, y170, y171, y172, y173, y174, y175, y176, y177, y178, y179, y180, y181, y182, y183, y184, y185, y186, y187, y188, y189, y190, y191, y192, y193, y194, y195, y196, y197, y198, y199, y200, y201, y202, y203, y204, y205, y206, y207, y208, y209, y210, y211, y212, y213, y214, y215, y216, y217, y218, y219, y220, y221, y222, y223, y224, y225, y226, y227, y228, y229, y230, y231, y232, y233, y234, y235, y236, y237, y238, y239, y240, y241, y242, y243, y244, y245, y246, y247, y248, y249, y250, y251, y252, y253, y254, y255, y256, y257, y258, y259, y260, y261, y262, y263, y264, y265, y266, y267, y268, y269, y270, y271, y272, y273, y274, y275, y276, y277, y278, y279, y280, y281, y282, y283, y284, y285, y286, y287, y288, y289, y290, y291, y292, y293, y294, y295, y296, y297, y298, y299, y300, y301, y302, y303, y304, y305, y306, y307, y308, y309, y310, y311, y312, y313, y314, y315, y316, y317, y318, y319, y320, y321, y322, y323, y324, y325, y326, y327, y328, y329, y330, y331, y332, y333, y334, y335, y336, y337, y338, y339, y340, y341, y342, y343, y344, y345, y346, y347, y348, y349, y350, y351, y352, y353, y354, y355, y356, y357, y358, z359, z360, z361, z362, z363, z364, z365, z366], []⟩ W')
    (hret : ∀ (a' : Act) (w' : World), bodyPost Try.prog Try.f38 (fun e w' => ((last = false → (conclL n d m a ts0 1 Tt A B I J L V).2 = false) ∧ (last = true → closeL m a ts0 1 Tt I = false)) ∧ e = .returned (.tuple #[.slice none 0 0, .int .i64 5]) ∧ Below w1.heap.size w1 w') .ret a' w' → Q0 .ret a' w') :
    Code.wp Try.prog body38 (Exit.then K0 Q0) ⟨#[.slice p n c, .slice q m e, .slice (some ⟨b, off, none⟩) N cs, z3, z4, z5, z6, z7, v8, v9, .int .i64 (j : Int), z11, z12, z13, z14, z15, z16, z17, z18, z19, z20, z21, z22, z23, z24, z25, z26, z27, z28, z29, z30, z31, z32, z33, z34, z35, z36, z37, z38, z39, z40, z41, z42, z43, z44, z45, z46, z47, z48, z49, z50, z51, z52, z53, z54, z55, z56, z57, z58, z59, z60, z61, z62, z63, z64, z65, z66, z67, z68, z69, z70, z71, z72, z73, z74, z75, z76, z77, z78, z79, z80, z81, z82, z83, z84, z85, z86, z87, z88, z89, z90, z91, z92, z93, z94, z95, z96, z97, z98, z99, z100, z101, z102, z103, z104, z105, z106, z107, z108, z109, z110, z111, z112, z113, z114, z115, z116, z117, z118, z119, z120, z121, z122, z123, z124, z125, z126, z127, z128, z129, z130, z131, z132, z133, z134, z135, z136, z137, z138, z139, z140, z141, z142, z143, z144, z145, z146, z147, z148, z149, z150, z151, z152, z153, z154, z155, z156, z157, z158, z159, z160, z161, z162, z163, z164, z165, z166, z167, z168, z169, z170, z171, z172, z173, z174, z175, z176, z177, z178, z179, z180, z181, z182, z183, z184, z185, z186, z187, z188, z189, z190, z191, z192, z193, z194, z195, z196, z197, z198, z199, z200, z201, z202, z203, z204, z205, z206, z207, z208, z209, z210, z211, z212, z213, z214, z215, z216, z217, z218, z219, z220, z221, z222, z223, z224, z225, z226, z227, z228, z229, z230, z231, z232, z233, z234, z235, z236, z237, z238, z239, z240, z241, z242, z243, z244, z245, z246, z247, z248, z249, z250, z251, z252, z253, z254, z255, z256, z257, z258, z259, z260, z261, z262, z263, z264, z265, z266, z267, z268, z269, z270, z271, z272, z273, z274, z275, z276, z277, z278, z279, z280, z281, z282, z283, z284, z285, z286, z287, z288, z289, z290, z291, z292, z293, z294, z295, z296, z297, z298, z299, z300, z301, z302, z303, z304, z305, z306, z307, z308, z309, z310, z311, z312, z313, z314, z315, z316, z317, z318, z319, z320, z321, z322, z323, z324, z325, z326, z327, z328, z329, z330, z331, z332, z333, z334, z335, z336, z337, z338, z339, z340, z341, z342, z343, z344, z345, z346, z347, z348, z349, z350, z351, z352, z353, z354, z355, z356, z357, z358, z359, z360, z361, z362, z363, z364, z365, z366], []⟩ wo := by
  obtain ⟨i54, hi54, hz540, hz541, hz542⟩ := info54
  obtain ⟨i93, hi93, hz930, hz931, hz932⟩ := info93
  have HD := Lib.hid hd
  have HA := Lib.hid ha
  have HV := Lib.hid (And.intro hV hL)
  have HBS := Lib.hid hbase
  have HTS := Lib.hid hts
  have HLS := Lib.hid hls
  have HNX := Lib.hid hnext
  have HRT := Lib.hid hret
  have hj1 : (j : Int) < (N : Int) := by omega
  have hj2 : (0 : Int) ≤ (j : Int) := by omega
  have hj3 : (N : Int) ≤ 300 := by omega
  have hb1 := below1 wo (.cells #[.int .u8 1, .int .i64 Tt, .int .i64 A, .int .i64 B, .int .i64 I, .int .i64 J, .slice P L C] 57)
  have hb2 := chain hb1 (below1 _ (.cells #[.int .i64 0, .int .i64 0] 93))
  have hst : St ((wo.alloc (.cells #[.int .u8 1, .int .i64 Tt, .int .i64 A, .int .i64 B, .int .i64 I, .int .i64 J, .slice P L C] 57)).alloc (.cells #[.int .i64 0, .int .i64 0] 93)) base wo.heap.size (wo.heap.size + 1) 1 Tt A B I J P L C v8 v9 ts0 ls0 0 0 := by
    have hbs : base ≤ wo.heap.size := by rw [hbase]; exact hB.size
    refine ⟨by simp [go_sem], by simp [go_sem], by simp [go_sem], by simp [go_sem], by simp [go_sem], by simp [go_sem], by simp [go_sem], by simp [go_sem], by simp [go_sem], fun o => by simp [go_sem], hra.later hb2, by omega, fun k hk => ?_, fun k hk => ?_, ⟨hbs, by omega⟩⟩
    · have := (World.ownsRow.lt hra.tells _ hk).2; omega
    · have := (World.ownsRow.lt hra.lits _ hk).2; omega
  have HS := Lib.hid hst
  have HB := Lib.hid (show Below base w1 ((wo.alloc (.cells #[.int .u8 1, .int .i64 Tt, .int .i64 A, .int .i64 B, .int .i64 I, .int .i64 J, .slice P L C] 57)).alloc (.cells #[.int .i64 0, .int .i64 0] 93)) from by rw [hbase]; exact chain hB hb2)
  have HUP := Lib.hid (fun (W : World) (h : Below base w1 W) => (show Below w1.heap.size w1 W from by rw [← hbase]; exact h))
  have HDN := Lib.hid (fun (W W' : World) (h : Below base w1 W) (k : Below W.heap.size W W') => (show Below base w1 W' from h.trans (k.mono (by rw [hbase]; exact h.size))))
  clear hd ha hV hL hbase hts hls hnext hret hb1 hb2 hst hra hB
  conv => arg 2; whnf
  go_upto_if 48 with (fail)
  obtain ⟨D, hD⟩ : ∃ D, D = wo.heap.size := ⟨_, rfl⟩
  obtain ⟨E, hE⟩ : ∃ E, E = D + 1 := ⟨_, rfl⟩
  obtain ⟨W0, hW0⟩ : ∃ W, W = (wo.alloc (.cells #[.int .u8 1, .int .i64 Tt, .int .i64 A, .int .i64 B, .int .i64 I, .int .i64 J, .slice P L C] 57)).alloc (.cells #[.int .i64 0, .int .i64 0] 93) := ⟨_, rfl⟩
  rw [← hW0] at HS HB ⊢
  rw [← hD] at HS ⊢
  rw [← hE] at HS ⊢
  clear hW0 hD hE ck ct cA cB ci cj cp
  have HLA := Lib.hid hla
  clear hla
  have k0 := HS.out.k0
  have k1 := HS.out.k1
  have k2 := HS.out.k2
  have k3 := HS.out.k3
  have k4 := HS.out.k4
  have k5 := HS.out.k5
  have k6 := HS.out.k6
  have e0 := HS.out.e0
  have e1 := HS.out.e1
  have f0 := HS.out.fz 0
  have f1 := HS.out.fz 1
  have hde := HS.out.de
  have hed := HS.out.de.symm
  have HTL := refTold_any q m e a Tt W0 (HA.out.later (HUP.out _ HB.out)) hm htt.1 htt.2
  obtain ⟨tx, ty, tb, htl⟩ : ∃ tx ty tb, toldL m a Tt = ((tx, ty), tb) := ⟨_, _, _, rfl⟩
  rw [htl] at HTL
  have HTV := Lib.hid htl
  clear htl
  go_wp2_with fail
  refine HTL.mono ?_
  rintro e2 w3 ⟨rfl, hb3⟩
  try dsimp only
  have HS3 := Lib.hid (HS.out.later hb3)
  have HB3 := Lib.hid (HDN.out _ _ HB.out hb3)
  clear hb3 HTL
  clear k0 k1 k2 k3 k4 k5 k6 e0 e1 f0 f1 hde hed
  have k0 := HS3.out.k0
  have k1 := HS3.out.k1
  have k2 := HS3.out.k2
  have k3 := HS3.out.k3
  have k4 := HS3.out.k4
  have k5 := HS3.out.k5
  have k6 := HS3.out.k6
  have e0 := HS3.out.e0
  have e1 := HS3.out.e1
  have f0 := HS3.out.fz 0
  have f1 := HS3.out.fz 1
  have hde := HS3.out.de
  have hed := HS3.out.de.symm
  go_upto_region 16 with (fail)
  have HS4 := Lib.hid (HS3.out.put tx ty)
  have HB4 := Lib.hid (HS3.out.put_below tx ty HB3.out)
  obtain ⟨w4, hw4⟩ : ∃ w4, w4 = (w3.setCell ⟨E, 0, none⟩ (.int .i64 tx)).setCell ⟨E, 1, none⟩ (.int .i64 ty) := ⟨_, rfl⟩
  rw [← hw4] at HS4 HB4 ⊢
  clear hw4
  clear k0 k1 k2 k3 k4 k5 k6 e0 e1 f0 f1 hde hed
  have k0 := HS4.out.k0
  have k1 := HS4.out.k1
  have k2 := HS4.out.k2
  have k3 := HS4.out.k3
  have k4 := HS4.out.k4
  have k5 := HS4.out.k5
  have k6 := HS4.out.k6
  have e0 := HS4.out.e0
  have e1 := HS4.out.e1
  have f0 := HS4.out.fz 0
  have f1 := HS4.out.fz 1
  have hde := HS4.out.de
  have hed := HS4.out.de.symm
  have HS5 := Lib.hid (HS4.out.later (below1 w4 (.cells #[.int .i64 Tt] 54)))
  have HB5 := Lib.hid (HDN.out _ _ HB4.out (below1 w4 (.cells #[.int .i64 Tt] 54)))
  have HSZ := Lib.hid (show base ≤ (w4.alloc (.cells #[.int .i64 Tt] 54)).heap.size from by rw [HBS.out]; exact (HUP.out _ HB5.out).size)
  have HLN := Lib.hid (show ls0.length ≤ 300 from by have := HLS.out; omega)
  go_wp2_with (at_builtin; refine wpList_append_own_at _ rfl _ _ 23 rfl base 54 i54 (.int .i64 0) 1 8 Try.underlying23 hi54 hz540 hz541 hz542 rfl (by omega) v9 ls0.length (ls0.map (Value.int .i64)) rfl HS5.out.r.lits ⟨w4.heap.size, 0, none⟩ 1 1 [.int .i64 Tt] rfl rfl ?qc2 ?qc3 ?qc4 ?qc5 HSZ.out ?_)
  case qc2 =>
    intro jj u hjj
    rw [Lib.add_plain]
    match jj, hjj with
    | 0, hjj => cases hjj; simp [go_sem]
  case qc3 => intro u hu; simp at hu; rcases hu with rfl; rfl
  case qc4 => have hml : maxLen = 9223372036854775807 := rfl; have := HLN.out; omega
  case qc5 => have := HLN.out; omega
  intro v' w5 hown hgrow hnil_ hloc
  have HS6 := Lib.hid (HS5.out.push9 hgrow hown (by simpa using hloc))
  have HB6 := Lib.hid (HB5.out.grown hgrow HSZ.out (fun k hk => (World.ownsRow.lt HS5.out.r.lits k hk).1))
  clear hown hgrow hnil_ hloc
  clear k0 k1 k2 k3 k4 k5 k6 e0 e1 f0 f1 hde hed
  have k0 := HS6.out.k0
  have k1 := HS6.out.k1
  have k2 := HS6.out.k2
  have k3 := HS6.out.k3
  have k4 := HS6.out.k4
  have k5 := HS6.out.k5
  have k6 := HS6.out.k6
  have e0 := HS6.out.e0
  have e1 := HS6.out.e1
  have f0 := HS6.out.fz 0
  have f1 := HS6.out.fz 1
  have hde := HS6.out.de
  have hed := HS6.out.de.symm
  go_wp2_with fail
  go_quiet (fail)
  have HS9 := Lib.hid (HS6.out.later (below_drewN w5 nq))
  have HB9 := Lib.hid (HDN.out _ _ HB6.out (below_drewN w5 nq))
  clear k0 k1 k2 k3 k4 k5 k6 e0 e1 f0 f1 hde hed
  obtain ⟨W9, hW9⟩ : ∃ W, W = w5.drewN nq := ⟨_, rfl⟩
  rw [← hW9] at HS9 HB9 ⊢
  clear hW9
  have k0 := HS9.out.k0
  have k1 := HS9.out.k1
  have k2 := HS9.out.k2
  have k3 := HS9.out.k3
  have k4 := HS9.out.k4
  have k5 := HS9.out.k5
  have k6 := HS9.out.k6
  have e0 := HS9.out.e0
  have e1 := HS9.out.e1
  have f0 := HS9.out.fz 0
  have f1 := HS9.out.fz 1
  have hde := HS9.out.de
  have hed := HS9.out.de.symm
  cases tb with
  | false =>
    go_wp2_with fail
    try refine HRT.out _ _ ?_
    exact bodyPost_ret (v := .tuple #[.slice none 0 0, .int .i64 5]) (by simp [results, Try.results38, go_sem]) rfl ⟨⟨fun _ => by rw [conclL_1, HTV.out], fun _ => by rw [closeL_else _ _ _ _ _ _ (by decide) (by decide)]⟩, rfl, HUP.out _ HB9.out⟩
  | true =>
    cases last with
    | true =>
      go_wp2_with fail
      try refine HRT.out _ _ ?_
      exact bodyPost_ret (v := .tuple #[.slice none 0 0, .int .i64 5]) (by simp [results, Try.results38, go_sem]) rfl ⟨⟨fun h => absurd h (by decide), fun _ => by rw [closeL_else _ _ _ _ _ _ (by decide) (by decide)]⟩, rfl, HUP.out _ HB9.out⟩
    | false =>
      go_upto_region 45 with (fail)
      have HS45 := Lib.hid (HS9.out.later (below1 W9 (.cells #[.int .i64 tx, .int .i64 ty] 93)))
      have HB45 := Lib.hid (HDN.out _ _ HB9.out (below1 W9 (.cells #[.int .i64 tx, .int .i64 ty] 93)))
      have HZ45 := Lib.hid (show base ≤ (W9.alloc (.cells #[.int .i64 tx, .int .i64 ty] 93)).heap.size from by rw [HBS.out]; exact (HUP.out _ HB45.out).size)
      have HL45 := Lib.hid (show ts0.length ≤ 300 from by have := HTS.out; omega)
      go_wp2_with (at_builtin; refine wpList_append_own_at _ rfl _ _ 91 rfl base 93 i93 (.agg #[.int .i64 0, .int .i64 0]) 2 16 Try.underlying91 hi93 hz930 hz931 hz932 rfl (by omega) v8 ts0.length (flat2 ts0) rfl HS45.out.r.tells ⟨W9.heap.size, 0, none⟩ 1 1 [.int .i64 tx, .int .i64 ty] rfl rfl ?qc2 ?qc3 ?qc4 ?qc5 HZ45.out ?_)
      case qc2 =>
        intro jj u hjj
        rw [Lib.add_plain]
        match jj, hjj with
        | 0, hjj => cases hjj; simp [go_sem]
        | 1, hjj => cases hjj; simp [go_sem]
      case qc3 => intro u hu; simp at hu; rcases hu with rfl | rfl <;> rfl
      case qc4 => have hml : maxLen = 9223372036854775807 := rfl; have := HL45.out; omega
      case qc5 => have := HL45.out; omega
      intro v46 w46 hown hgrow hnil_ hloc
      have HR46 := Lib.hid (HS45.out.r.push8 (x := (tx, ty)) hgrow hown (by simpa using hloc))
      have HB46 := Lib.hid (HB45.out.grown hgrow HZ45.out (fun k hk => (World.ownsRow.lt HS45.out.r.tells k hk).1))
      clear hown hgrow hnil_ hloc
      clear k0 k1 k2 k3 k4 k5 k6 e0 e1 f0 f1 hde hed
      go_wp2_with fail
      have hjj : (j : Int) + 1 = ((j + 1 : Nat) : Int) := by omega
      try rw [hjj]
      exact HNX.out _ _ tx ty (ls0 ++ [Tt]) _ _ _ _ _ _ _ _ _ _ _ _ _ _ _ _ _ _ _ _ _ _ _ _ _ _ _ _ _ _ _ _ _ _ _ _ _ _ _ _ _ _ _ _ _ _ _ _ _ _ _ _ _ _ _ _ _ _ _ _ _ _ _ _ _ _ _ _ _ _ _ _ _ _ _ _ _ _ _ _ _ _ _ _ _ _ _ _ _ _ _ _ _ _ _ _ _ _ _ _ _ _ _ _ _ _ _ _ _ _ _ _ _ _ _ _ _ _ _ _ _ _ _ _ _ _ _ _ _ _ _ _ _ _ _ _ _ _ _ _ _ _ _ _ _ _ _ _ _ _ _ _ _ _ _ _ _ _ _ _ _ _ _ _ _ _ _ _ _ _ _ _ _ _ _ _ _ _ _ _ _ _ _ _ _ _ _ _ _ _ _ _ _ _ _ _ _ _ _ _ _ _ _ _ _ _ _ _ _ _ _ _ _ _ _ _ _ _ _ _ _ _ _ _ _ _ _ _ _ _ _ _ _ _ _ _ _ _ _ _ _ _ _ _ _ _ _ _ _ _ _ _ _ _ _ _ _ _ _ _ _ _ _ _ _ _ _ _ _ _ _ _ _ _ _ _ _ _ _ _ _ _ _ _ _ _ _ _ _ _ _ _ _ _ _ _ _ _ _ _ _ _ _ _ _ _ _ _ _ _ _ _ _ _ _ _ _ _ _ _ _ _ _ _ _ _ _ _ _ _ _ _ _ _ _ _ _ _ _ _ _ _ _ _ (Or.inl ⟨rfl, by rw [conclL_1, HTV.out], by rw [conclL_1, HTV.out], rfl⟩) (HUP.out _ HB46.out) HR46.out
end Go.Proofs.Ytgdncnalahdjeaa
