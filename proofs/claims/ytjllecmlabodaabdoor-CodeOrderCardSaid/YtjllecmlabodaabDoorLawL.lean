/-
  THE WALK of the law 'chirographkeep.CodeOrder'.
  CONDITIONS: package unicode/utf8's two tables hold what their initialisers lay ('Tabs').
-/
import Derived.Test.YtjllecmlabodaabDoorLawK
import Derived.Deep.RegionHeld3
namespace Go.Proofs.YtjllecmlabodaabDoor
open Go.RowKit CodeMath
set_option linter.unusedVariables false

theorem compare_good (v u : V) (w : World) (hv : v.Fits ∧ v.chk = 0) (hu : u.Fits ∧ u.chk = 0) (hT : Tabs w) :
    Calls Tryd.prog 17 #[v.agg, u.agg] w fun e w' => e = .returned (.tuple #[.int .i64 (ordV v u), .int .i64 0]) ∧ Below w.heap.size w w' := by
  have h := compare_any v u w hv.1 hu.1 hT
  have e : chk2 v u = 0 := by unfold chk2; rw [if_pos hv.2]; exact hu.2
  unfold compareR at h
  rw [e, if_pos rfl] at h
  exact h
theorem lies_take2 {w : World} {a o : Nat} {l : List V} (h : Lies w a o l) (j : Nat) (v : V) (hv : l[j]? = some v) : w.cell? ⟨a, o + j * 4, none⟩ = some (.int .i64 v.k) ∧ w.cell? ⟨a, o + j * 4 + 1, none⟩ = some (.int .i64 v.i) ∧ w.cell? ⟨a, o + j * 4 + 2, none⟩ = some (.int .u64 v.b) ∧ w.cell? ⟨a, o + j * 4 + 3, none⟩ = some (.string v.s) := h j v hv
theorem and_dn (down : Int) (j : Nat) : (bits .and .i64 (down / 2 ^ j) 1 == 1) = dn down j := by
  rw [and_one]
  unfold dn
  split
  · rename_i h; rw [decide_eq_true h]; rfl
  · rename_i h; rw [decide_eq_false h]; rfl

set_option maxRecDepth 100000 in
set_option maxHeartbeats 8000000 in
theorem codeOrder_walk (l : List R) (aol : Option Addr) (capl : Nat) (m : List R) (aom : Option Addr) (capm : Nat) (alike down : Int) (w : World) (hT : Tabs w) (hcl : l.length ≤ capl) (hml : capl ≤ 9223372036854775807) (hxl : Raws w aol l) (hcm : m.length ≤ capm) (hmm : capm ≤ 9223372036854775807) (hxm : Raws w aom m)
    (a0 : -9223372036854775808 ≤ alike) (a1 : alike ≤ 9223372036854775807) (d0 : -9223372036854775808 ≤ down) (d1 : down ≤ 9223372036854775807) :
    Calls Tryd.prog 5 #[.slice aol l.length capl, .slice aom m.length capm, .int .i64 alike, .int .i64 down] w fun e w' => e = .returned (.bool true) ∧ Below w.heap.size w w' := by
  have c16 := pairOf_any l m aol aom capl capm alike w hxl hxm hcl hcm hml hmm a0 a1
  generalize l.length = nl at c16 ⊢
  generalize m.length = nm at c16 ⊢
  clear hxl hxm hcl hcm a0 a1 d0 d1
  go_enter Tryd.func5, Tryd.ntmps5
  go_wp2_with fail
  refine c16.mono ?_
  rintro e w1 ⟨xs, zs, ax, az, cx, cz, rfl, hlz, h5, hcx, hcz, hgx, hgz, hx, hz, hb1⟩
  clear c16
  have hT1 := tabs_below hT hb1
  have h5z : zs.length ≤ 5 := by omega
  have cX := encode_good xs ax cx down w1 hx hgx h5 hT1
  have cZ := fun w hl hT => encode_good zs az cz down w hl hgz h5z hT
  have hst := bytes_stand down xs zs 0 hgx hgz hlz.symm
  have hxp : (xs.length == 0) = true ∨ ((xs.length == 0) = false ∧ 0 < (encRow (dn down) 0 (rowsOf xs)).length) := by
    cases xs with
    | nil => left; rfl
    | cons v l =>
      right
      refine ⟨rfl, ?_⟩
      simp only [rowsOf, List.map_cons, encRow, List.length_append, turnL_length]
      have := enc_pos v.val
      omega
  obtain ⟨X, hX⟩ : ∃ X, encRow (dn down) 0 (rowsOf xs) = X := ⟨_, rfl⟩
  obtain ⟨Z, hZ⟩ : ∃ Z, encRow (dn down) 0 (rowsOf zs) = Z := ⟨_, rfl⟩
  rw [hX] at cX hst hxp
  rw [hZ] at cZ hst
  obtain ⟨n, hn⟩ : ∃ n, xs.length = n := ⟨_, rfl⟩
  have hlzn : zs.length = n := by omega
  rw [hlzn] at cZ
  rw [hn] at cX hcx hcz h5 hxp
  rw [hn]
  have HN := Lib.hid hn
  have HZN := Lib.hid hlzn
  have HST := Lib.hid hst
  have HXP := Lib.hid hxp
  have HGX := Lib.hid hgx
  have HGZ := Lib.hid hgz
  clear hX hZ hn hlzn hlz hst hxp hgx hgz hT h5z
  go_wp2_with fail
  refine cX.mono ?_
  rintro e w2 ⟨v2, rfl, ho2, hb2⟩
  have hT2 := tabs_below hT1 hb2
  have c := cZ w2 (hz.keep hb2) hT2
  have hx2 := hx.keep hb2
  have hz2 := hz.keep hb2
  clear cX cZ hx hz hT1
  go_wp2_with fail
  refine c.mono ?_
  rintro e w3 ⟨v3, rfl, ho3, hb3⟩
  have hT3 := tabs_below hT2 hb3
  have hx3 := hx2.keep hb3
  have hz3 := hz2.keep hb3
  have ho23 := ho2.keep hb3
  have hbw3 : Below w.heap.size w w3 := (hb1.trans (hb2.mono hb1.size)).trans (hb3.mono (by have := hb1.size; have := hb2.size; omega))
  obtain ⟨a2, c2, rfl, _, _, _⟩ := ho23.bytes
  obtain ⟨a3, c3, rfl, _, _, _⟩ := ho3.bytes
  clear c hx2 hz2 ho2 hT2
  go_wp2_with fail
  go_loopw [15, 40] (fun c i wr => ∃ j : Nat, j ≤ n ∧ i = .int .i64 j ∧ c = .int .i64 (ordRow down 0 (xs.take j) (zs.take j)) ∧ Below w3.heap.size w3 wr) (fun _ i _ => n - (intOf i).toNat)
  case atStart => exact ⟨0, Nat.zero_le _, rfl, rfl, Below.refl _ _⟩
  case round =>
    obtain ⟨j, hj, rfl, rfl, hbw⟩ := hrel
    by_cases h1 : j < n
    · have hjx : j < xs.length := by have := HN.out; omega
      have hjz : j < zs.length := by have := HZN.out; omega
      obtain ⟨v, hv⟩ : ∃ v, xs[j]? = some v := ⟨xs[j], List.getElem?_eq_getElem hjx⟩
      obtain ⟨u, hu⟩ : ∃ u, zs[j]? = some u := ⟨zs[j], List.getElem?_eq_getElem hjz⟩
      have hgv := HGX.out v (List.mem_of_getElem? hv)
      have hgu := HGZ.out u (List.mem_of_getElem? hu)
      have hvj : xs[j] = v := by rw [List.getElem?_eq_getElem hjx] at hv; exact Option.some.inj hv
      have huj : zs[j] = u := by rw [List.getElem?_eq_getElem hjz] at hu; exact Option.some.inj hu
      have hsn := ordRow_snoc down (xs.take j) (zs.take j) 0 v u (by rw [List.length_take, List.length_take, HN.out, HZN.out])
      rw [← hvj, ← huj, ← List.take_succ_eq_append_getElem hjx, ← List.take_succ_eq_append_getElem hjz, hvj, huj, Nat.zero_add, List.length_take, Nat.min_eq_left (by omega)] at hsn
      rcases (hx3.keep hbw) with h0 | ⟨a, o, rfl, ha, hxa⟩
      · rw [h0] at hjx; simp at hjx
      rcases (hz3.keep hbw) with h0 | ⟨a', o', rfl, ha', hza⟩
      · rw [h0] at hjz; simp at hjz
      obtain ⟨p0, p1, p2, p3⟩ := hxa j v hv
      obtain ⟨q0, q1, q2, q3⟩ := hza j u hu
      have hTr := tabs_below hT3 hbw
      have hTd : ∀ q, Tabs (wr.drewN q) := fun q => tabs_below hTr (below_dn (Below.refl _ _) q)
      have hTd1 : Tabs wr.drew := hTd 1
      have c17 := compare_good v u wr.drew hgv hgu hTd1
      have hnx : (n : Int) = n := rfl
      have hrg : -1 ≤ ordV v u ∧ ordV v u ≤ 1 := by have := ordV_range v u; omega
      have hdn := and_dn down j
      obtain ⟨C, hC0⟩ : ∃ C, ordRow down 0 (xs.take j) (zs.take j) = C := ⟨_, rfl⟩
      obtain ⟨C2, hC2⟩ : ∃ C2, ordRow down 0 (xs.take (j + 1)) (zs.take (j + 1)) = C2 := ⟨_, rfl⟩
      obtain ⟨E, hE⟩ : ∃ E, ordV v u = E := ⟨_, rfl⟩
      rw [hC0, hC2, hE] at hsn
      rw [hE] at c17 hrg
      rw [hC0]
      have HC2 := Lib.hid hC2
      have HSN := Lib.hid hsn
      obtain ⟨r0, r1⟩ := hrg
      clear hv hu hgv hgu hvj huj hjx hjz hxa hza hC0 hC2 hE hsn hTr hTd hTd1
      go_wp2_with fail
      go_region_held3 (fun w' => w'.cell? ⟨a, o + j * 4, none⟩ = some (.int .i64 v.k) ∧ w'.cell? ⟨a, o + j * 4 + 1, none⟩ = some (.int .i64 v.i) ∧ w'.cell? ⟨a, o + j * 4 + 2, none⟩ = some (.int .u64 v.b) ∧ w'.cell? ⟨a, o + j * 4 + 3, none⟩ = some (.string v.s) ∧ w'.cell? ⟨a', o' + j * 4, none⟩ = some (.int .i64 u.k) ∧ w'.cell? ⟨a', o' + j * 4 + 1, none⟩ = some (.int .i64 u.i) ∧ w'.cell? ⟨a', o' + j * 4 + 2, none⟩ = some (.int .u64 u.b) ∧ w'.cell? ⟨a', o' + j * 4 + 3, none⟩ = some (.string u.s)) (first | exact ⟨p0, p1, p2, p3, q0, q1, q2, q3⟩ | exact ⟨z0, z1, z2, z3, z4, z5, z6, z7⟩ | (go_keep; done)) (first | (go_at_call 17; refine c17.mono ?_; rintro e w4 ⟨rfl, hb4⟩; have z0 := (hb4.cell (p := ⟨a, _, none⟩) ha).trans p0; have z1 := (hb4.cell (p := ⟨a, _, none⟩) ha).trans p1; have z2 := (hb4.cell (p := ⟨a, _, none⟩) ha).trans p2; have z3 := (hb4.cell (p := ⟨a, _, none⟩) ha).trans p3; have z4 := (hb4.cell (p := ⟨a', _, none⟩) ha').trans q0; have z5 := (hb4.cell (p := ⟨a', _, none⟩) ha').trans q1; have z6 := (hb4.cell (p := ⟨a', _, none⟩) ha').trans q2; have z7 := (hb4.cell (p := ⟨a', _, none⟩) ha').trans q3))
      have hbn : Below w3.heap.size w3 w4 := (hbw.trans (Below.refl _ _).drew).trans (hb4.mono hbw.size)
      clear p0 p1 p2 p3 q0 q1 q2 q3 z0 z1 z2 z3 z4 z5 z6 z7 c17 hb4
      cases hz : (C == 0)
      · have hne : ¬ C = 0 := by simpa using hz
        have HNE := Lib.hid hne
        clear hne hdn
        go_wp2_with fail
        go_roundw
        case rel => exact ⟨j + 1, by omega, by go_num, by rw [HC2.out, HSN.out, if_neg HNE.out], hbn⟩
        case measure => simp [intOf]; omega
      · have he : C = 0 := by simpa using hz
        have HEQ := Lib.hid he
        clear he
        cases hd : dn down j
        · rw [hd] at hdn
          have HD := Lib.hid hd
          clear hd
          go_wp2_with fail
          go_roundw
          case rel => exact ⟨j + 1, by omega, by go_num, by
            rw [HC2.out, HSN.out, if_pos HEQ.out, HD.out]
            by_cases h0 : E = 0
            · rw [if_pos h0, h0]
            · rw [if_neg h0]; rfl, hbn⟩
          case measure => simp [intOf]; omega
        · rw [hd] at hdn
          have HD := Lib.hid hd
          clear hd
          go_wp2_with fail
          go_roundw
          case rel => exact ⟨j + 1, by omega, by go_num, by
            rw [HC2.out, HSN.out, if_pos HEQ.out, HD.out]
            by_cases h0 : E = 0
            · rw [if_pos h0, h0]; rfl
            · rw [if_neg h0]; rfl, hbn⟩
          case measure => simp [intOf]; omega
    · have hjn : j = n := by omega
      have hC : ordRow down 0 (xs.take j) (zs.take j) = Lib.compareBytes X Z := by
        rw [HST.out, hjn, List.take_of_length_le (by rw [HN.out]; omega), List.take_of_length_le (by rw [HZN.out]; omega)]
      rw [hC]
      obtain ⟨C, hC0⟩ : ∃ C, Lib.compareBytes X Z = C := ⟨_, rfl⟩
      rw [hC0]
      have s1 := ownB_string (ho23.keep hbw)
      have s2 := ownB_string (ho3.keep hbw)
      have hless : Op.bytesLess (⟨X.toArray⟩ : ByteArray).toList (⟨Z.toArray⟩ : ByteArray).toList = decide (C < 0) := by
        rw [Lib.toList_data, Lib.toList_data, bytesLess_cmp]
        show decide (Lib.compareBytes X Z < 0) = _
        rw [hC0]
      have heq : ((⟨X.toArray⟩ : ByteArray).toList == (⟨Z.toArray⟩ : ByteArray).toList) = (C == 0) := by
        rw [Lib.toList_data, Lib.toList_data]
        show (X == Z) = _
        have := cmpB_zero X Z
        rw [hC0] at this
        by_cases hx : X = Z
        · rw [this.2 hx, hx]; simp
        · have h1 : (X == Z) = false := by simpa using hx
          have h2 : (C == 0) = false := by simp only [beq_eq_false_iff_ne]; exact fun h => hx (this.1 h)
          rw [h1, h2]
      have hbf : Below w.heap.size w wr := hbw3.trans (hbw.mono (by have := hbw3.size; omega))
      have c18 := codeTells_any wr (tabs_below hT3 hbw)
      generalize (⟨X.toArray⟩ : ByteArray) = SX at s1 hless heq
      generalize (⟨Z.toArray⟩ : ByteArray) = SZ at s2 hless heq
      have hxp := HXP.out
      clear hC hC0 hjn
      rcases hxp with hx0 | ⟨hx0, hx1⟩
      · have hx0' : ((n : Int) == 0) = true := by simpa using hx0
        clear hx0
        go_wp2_with fail
        refine c18.mono ?_
        rintro e w6 ⟨rfl, hb6⟩
        have hbg := hbf.trans (hb6.mono hbf.size)
        clear c18
        go_wp2_with fail
        go_ret
        exact ⟨rfl, hbg⟩
      · have hx0' : ((n : Int) == 0) = false := by simpa using hx0
        have hx1' : (0 : Int) < (X.length : Int) := by omega
        clear hx0 hx1
        go_wp2_with fail
        refine c18.mono ?_
        rintro e w6 ⟨rfl, hb6⟩
        have hbg := hbf.trans (hb6.mono hbf.size)
        clear c18
        go_wp2_with fail
        go_ret
        exact ⟨rfl, hbg⟩
end Go.Proofs.YtjllecmlabodaabDoor
