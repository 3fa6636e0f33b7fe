/-
  THE WALK of the law 'chirographkeep.LexBlanks'.
  CONDITIONS: what 'Env' and 'SEnv' say.
-/
import Derived.Test.YtlhoakpijfhljaaGreatDoorBackG
import Derived.Test.YtlhoakpijfhljaaGreatDoorLawX4
namespace Go.Proofs.YtlhoakpijfhljaaGreatDoor
open Go.RowKit
set_option linter.unusedVariables false
set_option maxRecDepth 100000

theorem cut_semi (w : World) (hE : Env w) : Calls Tryz.prog 9 #[.string ⟨#[32, 59]⟩] w fun e w' => (∃ a k, e = .returned (.tuple #[.slice a 1 k, .int .i64 0, .int .i64 0])) ∧ Below w.heap.size w w' := by
  have g : GoodT ⟨6, [59], 0, 0⟩ := good_lit 6 [59] (by decide)
  have hc : cutR [32, 59] = .ok [⟨6, [59], 0, 0⟩] := rfl
  have c := cut_any [32, 59] w (by decide) hE
  rw [hc] at c
  refine c.mono ?_
  rintro e w' ⟨a, n, k, p, q, rfl, h, hb⟩
  obtain ⟨ho, rfl, rfl⟩ := h.out
  obtain ⟨ao, cap, hv, _⟩ := ho.toks
  cases hv
  exact ⟨⟨_, _, rfl⟩, hb⟩
theorem shT_ne (t : Tok) (h : GoodT t) : shT t ≠ [] := by
  obtain ⟨c, l, e, _⟩ := shT_head t h.1 h.2.1 [] (.inl rfl)
  rw [e]; simp
theorem gapsT_snoc (m : List (Tok × List UInt8)) (t : Tok) (g : List UInt8) : gapsT (m ++ [(t, g)]) = gapsT m ++ (shT t ++ g) := by
  simp [gapsT, List.flatMap_append]
theorem gapsT_len (m : List (Tok × List UInt8)) (h : ∀ x ∈ m, GoodT x.1 ∧ x.2.length ≤ 11) : (gapsT m).length ≤ 53 * m.length := by
  induction m with
  | nil => simp [gapsT]
  | cons x m ih =>
    have h1 := h x (List.mem_cons_self ..)
    have h2 := ih (fun y hy => h y (List.mem_cons_of_mem _ hy))
    have h3 := h1.1.2.2
    have e : gapsT (x :: m) = shT x.1 ++ x.2 ++ gapsT m := rfl
    rw [e]
    simp only [List.length_append, List.length_cons]
    omega
def GoodG (m : List (Tok × List UInt8)) : Prop := ∀ x ∈ m, GoodT x.1 ∧ x.2.length ≤ 11 ∧ GapG x.2
set_option maxHeartbeats 8000000 in
theorem blanks_some (l : List R) (a o cap : Nat) (gs : List Int) (aog : Option Addr) (capg : Nat) (w : World) (hE : Env w) (hSE : SEnv w) (hcap : l.length ≤ cap) (hc : cap ≤ 9223372036854775807) (hf : ∀ r ∈ l, r.Fits) (ha : a < w.heap.size) (hl : LiesR w a o l) (hgc : gs.length ≤ capg) (hgm : capg ≤ 9223372036854775807) (hgs : Ints w aog gs) :
    Calls Tryz.prog 4 #[.slice (some ⟨a, o, none⟩) l.length cap, .slice aog gs.length capg] w fun e w' => e = .returned (.bool true) ∧ Below w.heap.size w w' := by
  have c36 := fun w => someN_any (some ⟨a, o, none⟩) l.length cap 5 5 rfl w hcap (by omega) (by decide)
  obtain ⟨n, hn⟩ : ∃ n, l.length = n := ⟨_, rfl⟩
  rw [hn] at c36 hcap ⊢
  obtain ⟨q, hq⟩ : ∃ q, min n 5 = q := ⟨_, rfl⟩
  rw [hq] at c36
  have hq5 : q ≤ 5 := by omega
  obtain ⟨G, hG⟩ : ∃ G, gs.length = G := ⟨_, rfl⟩
  rw [hG] at hgc ⊢
  have HGL := Lib.hid hG
  have HN := Lib.hid hn
  have HQ := Lib.hid hq
  have HF := Lib.hid hf
  have HL := Lib.hid hl
  have HGS := Lib.hid hgs
  have HE := Lib.hid hE
  have HSE := Lib.hid hSE
  clear hn hq hf hl hG hgs hE hSE
  go_enter Tryz.func4, Tryz.ntmps4
  go_wp2_with fail
  refine (c36 _).mono ?_
  rintro e w1 ⟨rfl, rfl⟩
  clear c36
  go_wp2_with fail
  go_loopw [5, 6, 22] (fun u s i wr => ∃ (j : Nat) (m : List (Tok × List UInt8)), j ≤ q ∧ i = .int .i64 j ∧ m.length = j ∧ Hid (GoodG m) ∧ s = .string (str (gapsT m)) ∧ OwnTk wr w.heap.size u (m.map (·.1)) ∧ Below w.heap.size w wr) (fun _ _ i _ => q - (intOf i).toNat)
  case atStart => exact ⟨0, [], Nat.zero_le _, rfl, rfl, Lib.hid (show GoodG [] from by simp [GoodG]), rfl, OwnTk.nil _ _, Below.refl _ _⟩
  case round =>
    obtain ⟨j, m, hj, rfl, hvl, hgm2, rfl, ho, hbw⟩ := hrel
    by_cases h1 : j < q
    · have hlt : j < l.length := by have := HQ.out; have := HN.out; omega
      obtain ⟨r, hr⟩ : ∃ r, l[j]? = some r := ⟨l[j], List.getElem?_eq_getElem hlt⟩
      have hfit := HF.out r (List.mem_of_getElem? hr)
      obtain ⟨c0, c1, c2, c3⟩ := HL.out j r hr
      have d0 := (hbw.cell (p := ⟨a, o + j * 4, none⟩) ha).trans c0
      have d1 := (hbw.cell (p := ⟨a, o + j * 4 + 1, none⟩) ha).trans c1
      have d2 := (hbw.cell (p := ⟨a, o + j * 4 + 2, none⟩) ha).trans c2
      have d3 := (hbw.cell (p := ⟨a, o + j * 4 + 3, none⟩) ha).trans c3
      have c37 := fun w => tokenOf_any r hfit w
      have ho1 : ∀ o, OwnTk (wr.alloc o) w.heap.size _ (m.map (·.1)) := fun o => World.ownsRow.alloc ho o
      have hml : (m.map (·.1)).length = j := by rw [List.length_map]; exact hvl
      have hl6 : (m.map (·.1)).length ≤ 1000000 := by omega
      have hlen := gapsT_len m (fun x hx => ⟨(hgm2.out x hx).1, (hgm2.out x hx).2.1⟩)
      have HV := Lib.hid hvl
      obtain ⟨S, hS⟩ : ∃ S, str (gapsT m) = S := ⟨_, rfl⟩
      have zS : S.size ≤ 265 := by rw [← hS, str_size]; omega
      have HS := Lib.hid hS
      rw [hS]
      have iJ : (j : Int) < (q : Int) := by omega
      clear c0 c1 c2 c3 hr hfit ho hvl hlen hS hlt hml
      go_wp2_with fail
      refine (c37 _).mono ?_
      rintro e w1 ⟨v, rfl, HG, hb⟩
      have ho2 := (ho1 _).keep hb
      have hbw1 : Below w.heap.size w w1 := (hbw.alloc hbw.size _).trans (hb.mono (by have := hbw.size; simp; omega))
      have cS := fun (W : World) (hW : Below w.heap.size w W) => show_any [v] (some ⟨W.heap.size, 0, none⟩) 1 _ (HSE.out.keep (hW.alloc hW.size (.cells #[.int .i64 v.k, .string (str v.s), .int .i64 v.i, .int .u64 v.b] 32))) (by simp; exact HG.out.1) (by simp) (toks_one W v)
      obtain ⟨hsh, _, _⟩ := goods_show (l := [v]) (by simp; exact HG.out) (by simp)
      rw [hsh, show textT [v] = shT v by simp [textT]] at cS
      unfold ShowPost at cS
      have hne := shT_ne v HG.out
      have hl42 := HG.out.2.2
      obtain ⟨vk, vs, vi, vb⟩ := v
      simp only at cS
      obtain ⟨V, hV⟩ : ∃ V, str vs = V := ⟨_, rfl⟩
      rw [hV] at cS ⊢
      obtain ⟨wx, hwx⟩ : ∃ wx, w1.alloc (.cells #[.int .i64 vk, .string V, .int .i64 vi, .int .u64 vb] 32) = wx := ⟨_, rfl⟩
      have zT : Blk wx w1.heap.size 32 [.int .i64 vk, .string V, .int .i64 vi, .int .u64 vb] := by rw [← hwx]; exact Blk.new w1 #[.int .i64 vk, .string V, .int .i64 vi, .int .u64 vb] _
      have hox0 : ∀ o, OwnTk (w1.alloc o) w.heap.size _ (m.map (·.1)) := fun o => World.ownsRow.alloc ho2 o
      have hox := hox0 (.cells #[.int .i64 vk, .string V, .int .i64 vi, .int .u64 vb] 32)
      rw [hwx] at hox
      have hbx : Below w.heap.size w wx := by rw [← hwx]; exact hbw1.alloc hbw1.size _
      clear c37 ho1 ho2 hox0 hsh d0 d1 d2 d3
      go_upto_region 7 with fail
      try rw [hwx]
      have hgx : w1.heap.size < wx.heap.size := zT.lt
      clear hwx hb hbw hbw1
      generalize w1.heap.size = g at *
      have p0 := zT.cell (j := 0) rfl
      have p1 := zT.cell (j := 1) rfl
      have p2 := zT.cell (j := 2) rfl
      have p3 := zT.cell (j := 3) rfl
      go_wp2_with fail
      refine (cS wx hbx).mono ?_
      rintro e w3 ⟨x, f, rfl, hsh, hb3⟩
      obtain ⟨rfl, rfl⟩ := hsh.out
      have hbwa : Below wx.heap.size wx w3 := ((Below.refl _ _).alloc (Nat.le_refl _) _).trans (hb3.mono (by simp))
      have hbw3 : Below w.heap.size w w3 := below_stepL hbx hbx.size hbwa
      have zT3 := zT.keep hbwa hgx
      have ho3 := hox.keep hbwa
      have hbb3 := hbw3.size
      clear cS hsh hb3 hbwa hox zT p0 p1 p2 p3 hbx
      have q0 := zT3.cell (j := 0) rfl
      have q1 := zT3.cell (j := 1) rfl
      have q2 := zT3.cell (j := 2) rfl
      have q3 := zT3.cell (j := 3) rfl
      obtain ⟨Y, hY⟩ : ∃ Y, str (shT ⟨vk, vs, vi, vb⟩) = Y := ⟨_, rfl⟩
      have y1 : Y.toList.isEmpty = false := by rw [← hY, str_toList]; simpa using hne
      have y2 : ¬ Y.toList = [] := by rw [← hY, str_toList]; exact hne
      have zY : Y.size ≤ 42 := by rw [← hY, str_size]; exact hl42
      have HY := Lib.hid hY
      have HVV := Lib.hid hV
      rw [hY]
      subst hV
      clear hY zT3 hne hl42
      obtain ⟨v, hv⟩ : ∃ v : Tok, (⟨vk, vs, vi, vb⟩ : Tok) = v := ⟨_, rfl⟩
      obtain ⟨rfl, rfl, rfl, rfl⟩ : vk = v.k ∧ vs = v.s ∧ vi = v.i ∧ vb = v.b := by rw [← hv]; exact ⟨rfl, rfl, rfl, rfl⟩
      rw [hv] at HG HY
      clear hv HVV
      by_cases hG : j < G
      · have iG : (j : Int) < (G : Int) := by omega
        obtain ⟨gf, gsA⟩ := HGS.out
        have hjg : j < gs.length := by rw [HGL.out]; exact hG
        obtain ⟨x, hx⟩ : ∃ x, gs[j]? = some x := ⟨gs[j], List.getElem?_eq_getElem hjg⟩
        obtain ⟨x0, x1⟩ := gf x (List.mem_of_getElem? hx)
        rcases gsA with h | ⟨ga, og, rfl, hga, hgl⟩
        · rw [h] at hjg; simp at hjg
        have dg := (hbw3.cell (p := ⟨ga, og + j, none⟩) hga).trans (hgl j x hx)
        have c4 := fun w => picked_any x 4 w (by decide) (by decide) x0 x1
        have hx4 : x % 4 = 0 ∨ x % 4 = 1 ∨ x % 4 = 2 ∨ x % 4 = 3 := by omega
        generalize x % 4 = z at *
        clear hx hgl gf hjg x0 x1
        rcases hx4 with rfl | rfl | rfl | rfl
        · go_wp2_with fail
          refine (c4 _).mono ?_
          rintro e w4 ⟨rfl, rfl⟩
          clear c4 dg
          have hz : S ++ (Y ++ ⟨#[32]⟩) = str (gapsT (m ++ [(v, gapL 0)])) := by rw [gapsT_snoc, ← str_append, ← str_append, HS.out, HY.out]; rfl
          have HM2 : Hid (GoodG (m ++ [(v, gapL 0)])) := by
            show GoodG _
            intro x hx
            rcases List.mem_append.1 hx with hx | hx
            · exact hgm2.out x hx
            · rw [List.mem_singleton] at hx; subst hx; exact ⟨HG.out, (gapL_len 0).1, gapL_ok 0⟩
          obtain ⟨Z, hZ⟩ : ∃ Z, str (gapsT (m ++ [(v, gapL 0)])) = Z := ⟨_, rfl⟩
          have HZ := Lib.hid hZ
          rw [hZ] at hz
          clear hZ
          go_wp2_with (first | (at_builtin; refine wpList_append_tok rfl (.tmp 50) (.tmp 52) rfl w.heap.size _ _ rfl ho3 v _ rfl _ _ _ rfl rfl rfl _ rfl (by first | rfl | simp) hl6 hbb3 ?_; intro v1 w5 ho5 hb5) | fail)
          have hbw5 : Below w.heap.size w w5 := hbw3.trans hb5
          go_roundw
          case rel => exact ⟨j + 1, m ++ [(v, gapL 0)], by omega, by go_num, by simp [HV.out], HM2, by rw [HZ.out], by rw [List.map_append]; exact World.ownsRow.alloc ho5 _, hbw5.alloc hbw5.size _⟩
          case measure => simp [intOf]; omega
        · go_wp2_with fail
          refine (c4 _).mono ?_
          rintro e w4 ⟨rfl, rfl⟩
          clear c4 dg
          have hz : S ++ (Y ++ ⟨#[9, 10, 32]⟩) = str (gapsT (m ++ [(v, gapL 1)])) := by rw [gapsT_snoc, ← str_append, ← str_append, HS.out, HY.out]; rfl
          have HM2 : Hid (GoodG (m ++ [(v, gapL 1)])) := by
            show GoodG _
            intro x hx
            rcases List.mem_append.1 hx with hx | hx
            · exact hgm2.out x hx
            · rw [List.mem_singleton] at hx; subst hx; exact ⟨HG.out, (gapL_len 1).1, gapL_ok 1⟩
          obtain ⟨Z, hZ⟩ : ∃ Z, str (gapsT (m ++ [(v, gapL 1)])) = Z := ⟨_, rfl⟩
          have HZ := Lib.hid hZ
          rw [hZ] at hz
          clear hZ
          go_wp2_with (first | (at_builtin; refine wpList_append_tok rfl (.tmp 50) (.tmp 52) rfl w.heap.size _ _ rfl ho3 v _ rfl _ _ _ rfl rfl rfl _ rfl (by first | rfl | simp) hl6 hbb3 ?_; intro v1 w5 ho5 hb5) | fail)
          have hbw5 : Below w.heap.size w w5 := hbw3.trans hb5
          go_roundw
          case rel => exact ⟨j + 1, m ++ [(v, gapL 1)], by omega, by go_num, by simp [HV.out], HM2, by rw [HZ.out], by rw [List.map_append]; exact World.ownsRow.alloc ho5 _, hbw5.alloc hbw5.size _⟩
          case measure => simp [intOf]; omega
        · go_wp2_with fail
          refine (c4 _).mono ?_
          rintro e w4 ⟨rfl, rfl⟩
          clear c4 dg
          have hz : S ++ (Y ++ ⟨#[32, 45, 45, 32, 105, 116, 39, 115, 32, 40, 10]⟩) = str (gapsT (m ++ [(v, gapL 2)])) := by rw [gapsT_snoc, ← str_append, ← str_append, HS.out, HY.out]; rfl
          have HM2 : Hid (GoodG (m ++ [(v, gapL 2)])) := by
            show GoodG _
            intro x hx
            rcases List.mem_append.1 hx with hx | hx
            · exact hgm2.out x hx
            · rw [List.mem_singleton] at hx; subst hx; exact ⟨HG.out, (gapL_len 2).1, gapL_ok 2⟩
          obtain ⟨Z, hZ⟩ : ∃ Z, str (gapsT (m ++ [(v, gapL 2)])) = Z := ⟨_, rfl⟩
          have HZ := Lib.hid hZ
          rw [hZ] at hz
          clear hZ
          go_wp2_with (first | (at_builtin; refine wpList_append_tok rfl (.tmp 50) (.tmp 52) rfl w.heap.size _ _ rfl ho3 v _ rfl _ _ _ rfl rfl rfl _ rfl (by first | rfl | simp) hl6 hbb3 ?_; intro v1 w5 ho5 hb5) | fail)
          have hbw5 : Below w.heap.size w w5 := hbw3.trans hb5
          go_roundw
          case rel => exact ⟨j + 1, m ++ [(v, gapL 2)], by omega, by go_num, by simp [HV.out], HM2, by rw [HZ.out], by rw [List.map_append]; exact World.ownsRow.alloc ho5 _, hbw5.alloc hbw5.size _⟩
          case measure => simp [intOf]; omega
        · go_wp2_with fail
          refine (c4 _).mono ?_
          rintro e w4 ⟨rfl, rfl⟩
          clear c4 dg
          have hz : S ++ (Y ++ ⟨#[10, 45, 45, 10]⟩) = str (gapsT (m ++ [(v, gapL 3)])) := by rw [gapsT_snoc, ← str_append, ← str_append, HS.out, HY.out]; rfl
          have HM2 : Hid (GoodG (m ++ [(v, gapL 3)])) := by
            show GoodG _
            intro x hx
            rcases List.mem_append.1 hx with hx | hx
            · exact hgm2.out x hx
            · rw [List.mem_singleton] at hx; subst hx; exact ⟨HG.out, (gapL_len 3).1, gapL_ok 3⟩
          obtain ⟨Z, hZ⟩ : ∃ Z, str (gapsT (m ++ [(v, gapL 3)])) = Z := ⟨_, rfl⟩
          have HZ := Lib.hid hZ
          rw [hZ] at hz
          clear hZ
          go_wp2_with (first | (at_builtin; refine wpList_append_tok rfl (.tmp 50) (.tmp 52) rfl w.heap.size _ _ rfl ho3 v _ rfl _ _ _ rfl rfl rfl _ rfl (by first | rfl | simp) hl6 hbb3 ?_; intro v1 w5 ho5 hb5) | fail)
          have hbw5 : Below w.heap.size w w5 := hbw3.trans hb5
          go_roundw
          case rel => exact ⟨j + 1, m ++ [(v, gapL 3)], by omega, by go_num, by simp [HV.out], HM2, by rw [HZ.out], by rw [List.map_append]; exact World.ownsRow.alloc ho5 _, hbw5.alloc hbw5.size _⟩
          case measure => simp [intOf]; omega
      · have iG : ¬ (j : Int) < (G : Int) := by omega
        have hz : S ++ (Y ++ ⟨#[32]⟩) = str (gapsT (m ++ [(v, gapL 0)])) := by rw [gapsT_snoc, ← str_append, ← str_append, HS.out, HY.out]; rfl
        have HM2 : Hid (GoodG (m ++ [(v, gapL 0)])) := by
          show GoodG _
          intro x hx
          rcases List.mem_append.1 hx with hx | hx
          · exact hgm2.out x hx
          · rw [List.mem_singleton] at hx; subst hx; exact ⟨HG.out, (gapL_len 0).1, gapL_ok 0⟩
        obtain ⟨Z, hZ⟩ : ∃ Z, str (gapsT (m ++ [(v, gapL 0)])) = Z := ⟨_, rfl⟩
        have HZ := Lib.hid hZ
        rw [hZ] at hz
        clear hZ
        go_wp2_with (first | (at_builtin; refine wpList_append_tok rfl (.tmp 50) (.tmp 52) rfl w.heap.size _ _ rfl ho3 v _ rfl _ _ _ rfl rfl rfl _ rfl (by first | rfl | simp) hl6 hbb3 ?_; intro v1 w5 ho5 hb5) | fail)
        have hbw5 : Below w.heap.size w w5 := hbw3.trans hb5
        go_roundw
        case rel => exact ⟨j + 1, m ++ [(v, gapL 0)], by omega, by go_num, by simp [HV.out], HM2, by rw [HZ.out], by rw [List.map_append]; exact World.ownsRow.alloc ho5 _, hbw5.alloc hbw5.size _⟩
        case measure => simp [intOf]; omega
    · have hjq : j = q := by omega
      have hlen := gapsT_len m (fun x hx => ⟨(hgm2.out x hx).1, (hgm2.out x hx).2.1⟩)
      have hcut := cut_gaps m (fun x hx => ⟨⟨(hgm2.out x hx).1.1, (hgm2.out x hx).1.2.1⟩, (hgm2.out x hx).2.2⟩) (by omega) (by omega)
      have cC := cut_any (gapsT m) wr (by omega) (HE.out.keep hbw)
      rw [hcut] at cC
      unfold CutPost at cC
      have iJ : ¬ (j : Int) < (q : Int) := by omega
      obtain ⟨a1, cap1, rfl, g1, g2, ht⟩ := ho.toks
      obtain ⟨mm, hmm⟩ : ∃ mm, m.map (·.1) = mm := ⟨_, rfl⟩
      rw [hmm] at cC ht ⊢
      obtain ⟨N, hN⟩ : ∃ N, mm.length = N := ⟨_, rfl⟩
      have hN5 : N ≤ 5 := by rw [← hN, ← hmm, List.length_map]; omega
      rw [hN]
      generalize str (gapsT m) = S at *
      clear hjq hlen hcut ho g1 hmm
      go_wp2_with fail
      refine cC.mono ?_
      rintro e w3 ⟨a4, n4, k4, p4, c4, rfl, h4, hb3⟩
      obtain ⟨ho4, rfl, rfl⟩ := h4.out
      obtain ⟨ao4, cap4, hv4, g4, g5, ht4⟩ := ho4.toks
      cases hv4
      have hbw3 := below_stepL hbw hbw.size hb3
      have cS := cut_semi w3 (HE.out.keep hbw3)
      rw [hN]
      have HB3 := Lib.hid hb3
      have HT := Lib.hid ht
      have HT4 := Lib.hid ht4
      clear cC h4 ho4 ht4 hb3 ht hbw
      go_wp2_with fail
      refine cS.mono ?_
      rintro e w4 ⟨⟨a5, k5, rfl⟩, hb4⟩
      have hbw4 := below_stepL hbw3 hbw3.size hb4
      have cK := keepTokens_any mm a1 a4 cap1 k4 w4 (by omega) ((HT.out.keep HB3.out).keep hb4) (HT4.out.keep hb4)
      rw [hN] at cK
      clear cS hb4 hbw3 HT HT4 HB3
      go_wp2_with fail
      refine cK.mono ?_
      rintro e w5 ⟨rfl, hb5⟩
      have hbb := below_stepL hbw4 hbw4.size hb5
      clear cK hb5 hbw4
      go_wp2_with fail
      go_ret
      exact ⟨by first | rfl | trivial, hbb⟩
set_option maxHeartbeats 4000000 in
theorem blanks_nil (ao : Option Addr) (cap : Nat) (aog : Option Addr) (G capg : Nat) (w : World) (hE : Env w) :
    Calls Tryz.prog 4 #[.slice ao 0 cap, .slice aog G capg] w fun e w' => e = .returned (.bool true) ∧ Below w.heap.size w w' := by
  have c36 := fun w => someN_any ao 0 cap 5 5 rfl w (Nat.zero_le _) (by decide) (by decide)
  rw [Nat.zero_min] at c36
  have hcut : cutR [] = .ok [] := rfl
  have cC := cut_any [] w (by decide) hE
  rw [hcut] at cC
  unfold CutPost at cC
  have cC : Calls Tryz.prog 9 #[.string ⟨#[]⟩] w _ := cC
  have HE := Lib.hid hE
  clear hE hcut
  go_enter Tryz.func4, Tryz.ntmps4
  go_wp2_with fail
  refine (c36 _).mono ?_
  rintro e w1 ⟨rfl, rfl⟩
  clear c36
  go_wp2_with fail
  refine wp_loop_rounds 1 ?_
  rw [rounds_succ]
  go_wp2_with fail
  refine cC.mono ?_
  rintro e w3 ⟨a4, n4, k4, p4, c4, rfl, h4, hb3⟩
  obtain ⟨ho4, rfl, rfl⟩ := h4.out
  obtain ⟨ao4, cap4, hv4, g4, g5, ht4⟩ := ho4.toks
  cases hv4
  simp only [List.length_nil]
  have cS := cut_semi w3 (HE.out.keep hb3)
  clear cC h4 ho4 ht4
  go_wp2_with fail
  refine cS.mono ?_
  rintro e w4 ⟨⟨a5, k5, rfl⟩, hb4⟩
  have hbw4 := below_stepL hb3 hb3.size hb4
  have cK := keepTokens_any [] none a4 0 k4 w4 (by simp) (.inl rfl) (.inl rfl)
  simp only [List.length_nil] at cK
  clear cS hb4 hb3
  go_wp2_with fail
  refine cK.mono ?_
  rintro e w5 ⟨rfl, hb5⟩
  have hbb := below_stepL hbw4 hbw4.size hb5
  clear cK hb5 hbw4
  go_wp2_with fail
  go_ret
  exact ⟨by first | rfl | trivial, hbb⟩
theorem lexBlanks_walk (l : List R) (ao : Option Addr) (cap : Nat) (gs : List Int) (aog : Option Addr) (capg : Nat) (w : World) (hE : Env w) (hSE : SEnv w) (hcap : l.length ≤ cap) (hc : cap ≤ 9223372036854775807) (hR : Raws w ao l) (hgc : gs.length ≤ capg) (hgm : capg ≤ 9223372036854775807) (hgs : Ints w aog gs) :
    Calls Tryz.prog 4 #[.slice ao l.length cap, .slice aog gs.length capg] w fun e w' => e = .returned (.bool true) ∧ Below w.heap.size w w' := by
  rcases hR.2 with rfl | ⟨a, o, rfl, ha, hl⟩
  · exact blanks_nil ao cap aog gs.length capg w hE
  · exact blanks_some l a o cap gs aog capg w hE hSE hcap hc hR.1 ha hl hgc hgm hgs
end Go.Proofs.YtlhoakpijfhljaaGreatDoor
