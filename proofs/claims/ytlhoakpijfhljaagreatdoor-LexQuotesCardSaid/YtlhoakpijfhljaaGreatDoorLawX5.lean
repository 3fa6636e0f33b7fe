/-
  THE WALK of the law 'chirographkeep.LexQuotes'.
  CONDITIONS: what 'Env' and 'SEnv' say.
-/
import Derived.Test.YtlhoakpijfhljaaGreatDoorBackC
import Derived.Test.YtlhoakpijfhljaaGreatDoorShowU
import Derived.Test.YtlhoakpijfhljaaGreatDoorKeepT
import Derived.Test.YtlhoakpijfhljaaGreatDoorCleanT
namespace Go.Proofs.YtlhoakpijfhljaaGreatDoor
open Go.RowKit
set_option linter.unusedVariables false
set_option maxRecDepth 100000

theorem and_c0 (x : UInt8) : (bits .and .u8 (x.toNat : Int) 192 == 128) = contB x := by
  have := all_bytes (P := fun c => (bits .and .u8 (c.toNat : Int) 192 == 128) == contB c) (by decide +kernel) x
  simpa using this
theorem toksOne (w : World) (t : Tok) : Toks (w.alloc (.cells #[.int .i64 t.k, .string (str t.s), .int .i64 t.i, .int .u64 t.b] 32)) (some ⟨w.heap.size, 0, none⟩) [t] := by
  refine .inr ⟨w.heap.size, 0, rfl, by simp, fun j u hu => ?_⟩
  cases j with
  | zero =>
    simp only [List.getElem?_cons_zero, Option.some.injEq] at hu
    subst hu
    exact ⟨by simp, by simp, by simp, by simp⟩
  | succ j => simp at hu
theorem quote_tok (s : List UInt8) (h0 : s.length ≤ 32) (h1 : Lib.validD s = true) : FitT ⟨4, s, 0, 0⟩ ∧ okT ⟨4, s, 0, 0⟩ = 0 ∧ (shT ⟨4, s, 0, 0⟩).length ≤ 66 := by
  refine ⟨⟨by simp, by simp, by simp, by simp, by show s.length ≤ _; omega⟩, ?_, ?_⟩
  · show tokC 4 s 0 0 = 0
    rw [tokC_quote, if_neg (by omega), if_neg (by rw [h1]; decide)]
  · unfold shT shownT
    simp only
    rw [if_neg (by decide), if_pos trivial]
    have := bodyQ_len s
    simp; omega
set_option maxHeartbeats 8000000 in
theorem lexQuotes_walk (text : ByteArray) (m : Int) (w : World) (hE : Env w) (hSE : SEnv w) (hs : text.size ≤ 9223372036854775807) (m0 : -9223372036854775808 ≤ m) (m1 : m ≤ 9223372036854775807) :
    Calls Tryz.prog 6 #[.string text, .int .i64 m] w fun e w' => e = .returned (.bool true) ∧ Below w.heap.size w w' := by
  have c1 := fun w => cleanTo_any text 30 30 rfl (by decide) w
  have HE := Lib.hid hE
  have HSE := Lib.hid hSE
  clear hE hSE hs
  go_enter Tryz.func6, Tryz.ntmps6
  go_wp2_with fail
  refine (c1 _).mono ?_
  rintro e w1 ⟨t, rs, rfl, hrs, ht30, hb1⟩
  clear c1
  obtain ⟨u, hu⟩ : ∃ u, u = rs.flatMap encL := ⟨_, rfl⟩
  have htu : t = str u := by rw [hu, ← hrs.out]; exact str_eq t
  subst htu
  have hul : u.length ≤ 30 := by rw [str_size] at ht30; exact ht30
  have hsz := str_size u
  obtain ⟨n, hn⟩ : ∃ n, u.length = n := ⟨_, rfl⟩
  have hszI : ((str u).size : Int) = (n : Int) := by rw [hsz, hn]
  have c2 := fun w => picked_any m ((n : Int) + 1) w (by omega) (by omega) m0 m1
  have hk0 : 0 ≤ m % ((n : Int) + 1) := Int.emod_nonneg _ (by omega)
  have hk1 : m % ((n : Int) + 1) < (n : Int) + 1 := Int.emod_lt_of_pos _ (by omega)
  generalize m % ((n : Int) + 1) = q at *
  obtain ⟨k, rfl⟩ : ∃ k : Nat, q = k := ⟨q.toNat, by omega⟩
  have HRS := Lib.hid hu
  have HB1 := Lib.hid hb1
  have hstop : ∀ j : Nat, j ≤ n → (j = 0 ∨ ∀ x : UInt8, u[j]? = some x → contB x = false) → Lib.validD (u.take j ++ [39, 39] ++ u.drop j) = true ∧ Lib.validD ((u.take j ++ [39, 39] ++ u.drop j) ++ [195]) = false ∧ (u.take j ++ [39, 39] ++ u.drop j).length ≤ 32 := by
    intro j hj hp
    rw [hu] at hp
    obtain ⟨v1, v2, v3⟩ := marked rs j (by rw [← hu]; omega) hp _ rfl
    rw [← hu] at v1 v2 v3
    exact ⟨v1, v2, by omega⟩
  have HST := Lib.hid hstop
  have HN := Lib.hid hn
  obtain ⟨S, hS⟩ : ∃ S, str u = S := ⟨_, rfl⟩
  have hget : ∀ j (h : j < S.size) (h' : j < u.length), S[j] = u[j] := by subst hS; exact fun j h h' => rfl
  have HG := Lib.hid hget
  have HS := Lib.hid hS
  rw [hS] at hszI ⊢
  have hsz2 : S.size = n := by rw [← hS, hsz, hn]
  have HSZ := Lib.hid hsz2
  have hn30 : n ≤ 30 := by omega
  have hkn : k ≤ n := by omega
  clear ht30 hu hrs hb1 hstop hget hS hsz hn hul hsz2 hk0 hk1
  go_wp2_with fail
  refine (c2 _).mono ?_
  rintro e w2 ⟨rfl, rfl⟩
  clear c2
  go_wp2_with fail
  go_loopw [6] (fun x wr => ∃ j : Nat, j ≤ n ∧ x = .int .i64 j ∧ wr = w1) (fun x _ => (intOf x).toNat)
  case atStart => exact ⟨k, hkn, rfl, rfl⟩
  case round =>
    obtain ⟨j, hj, rfl, rfl⟩ := hrel
    by_cases hgo : ∃ h : j < u.length, 0 < j ∧ contB u[j] = true
    · obtain ⟨hjl, h0, hc⟩ := hgo
      have hjs : j < S.size := by rw [HSZ.out, ← HN.out]; exact hjl
      have hgI : S[j] = u[j] := HG.out j hjs hjl
      have hjn : j < n := by rw [← HN.out]; exact hjl
      have i0 : (0 : Int) < (j : Int) := by omega
      have i1 : (j : Int) < (n : Int) := by omega
      have hb : (bits .and .u8 (S[j].toNat : Int) 192 == 128) = true := by rw [hgI, and_c0]; exact hc
      clear hgI hc hjl
      go_wp2_with fail
      go_roundw
      case rel => exact ⟨j - 1, by omega, by congr 1; omega, by first | rfl | trivial⟩
      case measure => simp [intOf]; omega
    · have hst : j = 0 ∨ ∀ x : UInt8, u[j]? = some x → contB x = false := by
        rcases Nat.eq_zero_or_pos j with h0 | h0
        · exact .inl h0
        · right
          intro x hx
          obtain ⟨hjl, hjx⟩ := List.getElem?_eq_some_iff.1 hx
          cases hc : contB x with
          | false => rfl
          | true => exact absurd ⟨hjl, h0, by rw [hjx]; exact hc⟩ hgo
      obtain ⟨v1, v2, v3⟩ := HST.out j hj hst
      have hjl' : j ≤ u.length := by rw [HN.out]; exact hj
      have sl1 : ∀ W, (Instr.slice 9 (.string S) none (some (.int .i64 (j : Int))) none).run Tryz.prog W = .ok (.string (str (u.take j))) W := fun W => by rw [← HS.out]; exact head_str u j j rfl hjl' W
      have sl2 : ∀ W, (Instr.slice 9 (.string S) (some (.int .i64 (j : Int))) none none).run Tryz.prog W = .ok (.string (str (u.drop j))) W := fun W => by rw [← HS.out]; exact drop_str u j j rfl hjl' W
      have hy : str (u.take j) ++ ⟨#[39, 39]⟩ ++ str (u.drop j) = str (u.take j ++ [39, 39] ++ u.drop j) := by
        rw [← str_append, ← str_append]; rfl
      generalize u.take j ++ [39, 39] ++ u.drop j = y at *
      obtain ⟨q1, q2, q3⟩ := quote_tok y v3 v1
      have hsh : showR [⟨4, y, 0, 0⟩] = .ok (textT [⟨4, y, 0, 0⟩]) := by
        have : (textT [⟨4, y, 0, 0⟩]).length = (shT ⟨4, y, 0, 0⟩).length := by simp [textT]
        rw [show_good (by simp) (by simp; exact q2), if_neg (by omega)]
      have hlen : (textT [⟨4, y, 0, 0⟩]).length ≤ 66 := by
        have : (textT [⟨4, y, 0, 0⟩]).length = (shT ⟨4, y, 0, 0⟩).length := by simp [textT]
        omega
      have hcut : cutR (textT [⟨4, y, 0, 0⟩]) = .ok [⟨4, y, 0, 0⟩] := cut_show _ (by simp; exact ⟨q1, q2⟩) (by simp) (by omega)
      have cS := fun W (hW : Below w.heap.size w W) => show_any [⟨4, y, 0, 0⟩] (some ⟨W.heap.size, 0, none⟩) 1 _ (HSE.out.keep (hW.alloc hW.size (.cells #[.int .i64 4, .string (str y), .int .i64 0, .int .u64 0] 32))) (by simp; exact q1) (by simp) (toksOne W ⟨4, y, 0, 0⟩)
      have cC := fun W (hW : Below w.heap.size w W) => cut_any (textT [⟨4, y, 0, 0⟩]) W (by omega) (HE.out.keep hW)
      have cK := fun W (hW : Below w.heap.size w W) => lexCheck_any 4 0 0 (y ++ [195]) W (by decide) (by decide) (by simp; omega) (HE.out.keep hW).tabs (HE.out.keep hW).sw
      have hck : tokC 4 (y ++ [195]) 0 0 = 3 := by rw [tokC_quote, if_neg (by simp; omega), if_pos v2]
      have hy3 : str y ++ ⟨#[195]⟩ = str (y ++ [195]) := by rw [← str_append]; rfl
      rw [hsh] at cS
      rw [hcut] at cC
      rw [hck] at cK
      unfold ShowPost at cS
      unfold CutPost at cC
      have zA : (str (u.take j)).size ≤ 30 := by rw [str_size, List.length_take]; omega
      have zB : (str (u.drop j)).size ≤ 30 := by rw [str_size, List.length_drop]; have := HN.out; omega
      have zY : (str y).size ≤ 32 := by rw [str_size]; exact v3
      generalize str (y ++ [195]) = Y3 at *
      obtain ⟨Y, hYY⟩ : ∃ Y, str y = Y := ⟨_, rfl⟩
      rw [hYY] at cS hy hy3 zY
      have HYY := Lib.hid hYY
      clear hYY
      generalize str (u.take j) = A at *
      generalize str (u.drop j) = B at *
      have CS := Lib.hid cS
      have CC := Lib.hid cC
      have CK := Lib.hid cK
      have HY3 := Lib.hid hy3
      have HGX := Lib.hid HG.out
      have HSTX := Lib.hid hst
      clear cS cC cK hsh hcut hck v1 v2 v3 q1 q2 q3 hlen hjl' hy3 HST HG hst
      have h3 : j = 0 ∨ (0 < j ∧ j = n) ∨ (0 < j ∧ j < n ∧ ∃ hjs : j < S.size, (bits .and .u8 (S[j].toNat : Int) 192 == 128) = false) := by
        rcases Nat.eq_zero_or_pos j with h0 | h0
        · exact .inl h0
        · right
          rcases Nat.lt_or_ge j n with h1 | h1
          · right
            have hjl : j < u.length := by rw [HN.out]; exact h1
            have hjs : j < S.size := by rw [HSZ.out]; exact h1
            refine ⟨h0, h1, hjs, ?_⟩
            rw [HGX.out j hjs hjl, and_c0]
            rcases HSTX.out with h | h
            · omega
            · exact h _ (List.getElem?_eq_getElem hjl)
          · left; exact ⟨h0, by omega⟩
      clear HGX HSTX hgo
      rcases h3 with h3 | ⟨h3, h4⟩ | ⟨h3, h4, hjs, hb⟩
      · have i1 : ¬ (0 : Int) < (j : Int) := by omega
        clear h3
        go_upto_region 5 with fail
        go_quiet (fail)
        go_wp2_with fail
        have hbd : Below w.heap.size w (wr.drewN nq) := below_dq HB1.out nq
        obtain ⟨wd, hwd⟩ : ∃ wd, wr.drewN nq = wd := ⟨_, rfl⟩
        have hzd : wr.heap.size = wd.heap.size := by rw [← hwd]; rfl
        rw [hwd] at hbd ⊢
        rw [hzd]
        refine (CS.out wd hbd).mono ?_
        rintro e w3 ⟨x, f, rfl, hsh, hb3⟩
        obtain ⟨rfl, rfl⟩ := hsh.out
        have hb3' : Below w.heap.size w w3 := (hbd.alloc hbd.size _).trans (hb3.mono (by have := hbd.size; simp; omega))
        have c3 := CC.out w3 hb3'
        generalize str (textT [⟨4, y, 0, 0⟩]) = U at *
        clear CS CC hsh hb3 hbd hwd hzd
        go_wp2_with fail
        refine c3.mono ?_
        rintro e w4 ⟨a4, n4, k4, p4, c4, rfl, h4, hb4⟩
        obtain ⟨ho4, rfl, rfl⟩ := h4.out
        obtain ⟨ao4, cap4, hv4, g4, g5, ht4⟩ := ho4.toks
        cases hv4
        simp only [List.length_cons, List.length_nil, Nat.zero_add] at g4 ⊢
        rcases ht4 with h | ⟨b, o, rfl, hblt, hcl⟩
        · simp at h
        obtain ⟨x0, x1, x2, x3⟩ := hcl 0 _ rfl
        simp only [Nat.zero_mul, Nat.add_zero] at x0 x1 x2 x3
        rw [HYY.out] at x1
        have hb4' : Below w.heap.size w w4 := below_stepL hb3' hb3'.size hb4
        have c5 := CK.out w4 hb4'
        have hy3 := HY3.out
        clear c3 CK h4 ho4 hcl hb4 hb3'
        go_wp2_with fail
        refine c5.mono ?_
        rintro e w5 ⟨rfl, hb5⟩
        have hb5' : Below w.heap.size w w5 := below_stepL hb4' hb4'.size hb5
        clear c5 hb5 hb4' x0 x1 x2 x3
        go_wp2_with fail
        go_ret
        exact ⟨by first | rfl | trivial, hb5'⟩
      · have i1 : (0 : Int) < (j : Int) := by omega
        have i2 : ¬ (j : Int) < (n : Int) := by omega
        clear h3 h4
        go_upto_region 5 with fail
        go_quiet (fail)
        go_wp2_with fail
        have hbd : Below w.heap.size w (wr.drewN nq) := below_dq HB1.out nq
        obtain ⟨wd, hwd⟩ : ∃ wd, wr.drewN nq = wd := ⟨_, rfl⟩
        have hzd : wr.heap.size = wd.heap.size := by rw [← hwd]; rfl
        rw [hwd] at hbd ⊢
        rw [hzd]
        refine (CS.out wd hbd).mono ?_
        rintro e w3 ⟨x, f, rfl, hsh, hb3⟩
        obtain ⟨rfl, rfl⟩ := hsh.out
        have hb3' : Below w.heap.size w w3 := (hbd.alloc hbd.size _).trans (hb3.mono (by have := hbd.size; simp; omega))
        have c3 := CC.out w3 hb3'
        generalize str (textT [⟨4, y, 0, 0⟩]) = U at *
        clear CS CC hsh hb3 hbd hwd hzd
        go_wp2_with fail
        refine c3.mono ?_
        rintro e w4 ⟨a4, n4, k4, p4, c4, rfl, h4, hb4⟩
        obtain ⟨ho4, rfl, rfl⟩ := h4.out
        obtain ⟨ao4, cap4, hv4, g4, g5, ht4⟩ := ho4.toks
        cases hv4
        simp only [List.length_cons, List.length_nil, Nat.zero_add] at g4 ⊢
        rcases ht4 with h | ⟨b, o, rfl, hblt, hcl⟩
        · simp at h
        obtain ⟨x0, x1, x2, x3⟩ := hcl 0 _ rfl
        simp only [Nat.zero_mul, Nat.add_zero] at x0 x1 x2 x3
        rw [HYY.out] at x1
        have hb4' : Below w.heap.size w w4 := below_stepL hb3' hb3'.size hb4
        have c5 := CK.out w4 hb4'
        have hy3 := HY3.out
        clear c3 CK h4 ho4 hcl hb4 hb3'
        go_wp2_with fail
        refine c5.mono ?_
        rintro e w5 ⟨rfl, hb5⟩
        have hb5' : Below w.heap.size w w5 := below_stepL hb4' hb4'.size hb5
        clear c5 hb5 hb4' x0 x1 x2 x3
        go_wp2_with fail
        go_ret
        exact ⟨by first | rfl | trivial, hb5'⟩
      · have i1 : (0 : Int) < (j : Int) := by omega
        have i2 : (j : Int) < (n : Int) := by omega
        clear h3 h4
        go_upto_region 5 with fail
        go_quiet (fail)
        go_wp2_with fail
        have hbd : Below w.heap.size w (wr.drewN nq) := below_dq HB1.out nq
        obtain ⟨wd, hwd⟩ : ∃ wd, wr.drewN nq = wd := ⟨_, rfl⟩
        have hzd : wr.heap.size = wd.heap.size := by rw [← hwd]; rfl
        rw [hwd] at hbd ⊢
        rw [hzd]
        refine (CS.out wd hbd).mono ?_
        rintro e w3 ⟨x, f, rfl, hsh, hb3⟩
        obtain ⟨rfl, rfl⟩ := hsh.out
        have hb3' : Below w.heap.size w w3 := (hbd.alloc hbd.size _).trans (hb3.mono (by have := hbd.size; simp; omega))
        have c3 := CC.out w3 hb3'
        generalize str (textT [⟨4, y, 0, 0⟩]) = U at *
        clear CS CC hsh hb3 hbd hwd hzd
        go_wp2_with fail
        refine c3.mono ?_
        rintro e w4 ⟨a4, n4, k4, p4, c4, rfl, h4, hb4⟩
        obtain ⟨ho4, rfl, rfl⟩ := h4.out
        obtain ⟨ao4, cap4, hv4, g4, g5, ht4⟩ := ho4.toks
        cases hv4
        simp only [List.length_cons, List.length_nil, Nat.zero_add] at g4 ⊢
        rcases ht4 with h | ⟨b, o, rfl, hblt, hcl⟩
        · simp at h
        obtain ⟨x0, x1, x2, x3⟩ := hcl 0 _ rfl
        simp only [Nat.zero_mul, Nat.add_zero] at x0 x1 x2 x3
        rw [HYY.out] at x1
        have hb4' : Below w.heap.size w w4 := below_stepL hb3' hb3'.size hb4
        have c5 := CK.out w4 hb4'
        have hy3 := HY3.out
        clear c3 CK h4 ho4 hcl hb4 hb3'
        go_wp2_with fail
        refine c5.mono ?_
        rintro e w5 ⟨rfl, hb5⟩
        have hb5' : Below w.heap.size w w5 := below_stepL hb4' hb4'.size hb5
        clear c5 hb5 hb4' x0 x1 x2 x3
        go_wp2_with fail
        go_ret
        exact ⟨by first | rfl | trivial, hb5'⟩
end Go.Proofs.YtlhoakpijfhljaaGreatDoor
