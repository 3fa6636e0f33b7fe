/-
  CONTRACT of the reference's RowOf.
  CONDITIONS: each theorem's own hypotheses; package unicode/utf8's two tables hold what their initialisers lay ('Tabs').
-/
import Derived.Test.YtdbdlheilckcoaaDoorRefC
import Derived.Test.YtdbdlheilckcoaaDoorLawG
namespace Go.Proofs.YtdbdlheilckcoaaDoor
open Go.RowKit CodeMath
set_option linter.unusedVariables false

/-- s[k:], the rest of a string from k on. -/
theorem drop_str (l : List UInt8) (k : Nat) (x : Int) (hx : x = k) (hk : k ≤ l.length) (w : World) : (Instr.slice 9 (.string (str l)) (some (.int .i64 x)) none none).run Tryd.prog w = .ok (.string (str (l.drop k))) w := by
  subst hx
  have h := run_slice_string_from_if (P := Tryd.prog) w 9 (str l) .i64 (k : Int) Tryd.underlying9
  rw [h, if_pos ⟨by omega, by rw [str_size]; omega⟩, Int.toNat_natCast, str_size, str_extract _ _ _ hk]
  rw [List.take_of_length_le (by rw [List.length_drop]; omega)]

theorem rest_turn (l : List UInt8) (d : Bool) (p : Nat) : rest l d p = turnL d (l.drop p) := by unfold rest; rw [← turnL_drop]

set_option maxRecDepth 100000 in
set_option maxHeartbeats 4000000 in
theorem rowOf_in (l : List UInt8) (n : Nat) (down : Int) (ao : Option Addr) (cap : Nat) (w : World) (hn : n ≤ 5) (hl : l.length ≤ 4611686018427387904) (h : Bytes w ao l) (hT : Tabs w) :
    Calls Tryd.prog 14 #[.slice ao l.length cap, .int .i64 n, .int .i64 down] w (DecOk (decRow okV (dn down) n 0 l) w) := by
  obtain ⟨A, hA⟩ : ∃ A, decRow okV (dn down) n 0 l = A := ⟨_, rfl⟩
  rw [hA]
  unfold DecOk
  have hcv := bytes_string (cap := cap) h
  have hcv' : (convert 23 9 (.slice ao l.length cap)).run Tryd.prog w = .ok (.string (str l)) w := hcv
  have hA' : Hid (glue [] (decRow okV (dn down) (n - 0) 0 (l.drop 0)) = A) := by show _ = _; rw [glue_nil]; exact hA
  have HT := Lib.hid hT
  obtain ⟨ll, hll⟩ : ∃ ll, l.length = ll := ⟨_, rfl⟩
  have hS0 : Hid (str l = str (l.drop 0)) := rfl
  obtain ⟨S0, hS0'⟩ : ∃ S0, str l = S0 := ⟨_, rfl⟩
  rw [hll, hS0'] at hcv'
  rw [hS0'] at hS0
  rw [hll]
  have HLL := Lib.hid hll
  have hl' : ll ≤ 4611686018427387904 := by omega
  clear hA hT h hcv hll hS0' hl
  go_enter Tryd.func14, Tryd.ntmps14
  go_wp2
  clear hcv'
  go_loopw [8, 9, 10] (fun s u i wr => ∃ (j p : Nat) (vs : List CodeMath.Val), j ≤ n ∧ i = .int .i64 j ∧ s = .string (str (l.drop p)) ∧ p ≤ ll ∧ Hid (vs.length = j) ∧ OwnV wr w.heap.size u (vs.map CodeMath.Val.v) ∧ Below w.heap.size w wr ∧ Hid (glue vs (decRow okV (dn down) (n - j) j (l.drop p)) = A)) (fun _ _ i _ => n - (intOf i).toNat)
  case atStart => exact ⟨0, 0, [], Nat.zero_le _, rfl, by rw [hS0.out], Nat.zero_le _, rfl, OwnV.nil _ _, Below.refl _ _, hA'⟩
  case round =>
    obtain ⟨j, p, vs, hj, rfl, rfl, hp, hvl, ho, hbw, hx⟩ := hrel
    clear hA' hS0
    by_cases h1 : j < n
    · obtain ⟨m, hm⟩ : ∃ m, n - j = m + 1 := ⟨n - j - 1, by omega⟩
      have hx' := hx.out
      rw [hm, decRow_step] at hx'
      have cD := fun w => downs_any down j (by omega) w
      have hTr := tabs_below HT.out hbw
      have hdl : (l.drop p).length ≤ 4611686018427387904 := by rw [List.length_drop, HLL.out]; omega
      have cFl := fun w => flipped_any (l.drop p) w (by omega)
      have hrt := rest_turn l (dn down j) p
      have hrl := rest_length l (dn down j) p
      have cV := fun w hT => valueOf_any (rest l (dn down j) p) w hT (by rw [hrl, HLL.out]; omega)
      have cut := fun (k : Nat) (hk : k ≤ (l.drop p).length) w => drop_str (l.drop p) k (k : Int) rfl hk w
      simp only [List.drop_drop] at cut
      rw [hrt] at hx' cV hrl
      have HJ := Lib.hid hm
      have hsz := hbw.size
      have hlv : (vs.map CodeMath.Val.v).length ≤ 1000000 := by rw [List.length_map]; have := hvl.out; omega
      obtain ⟨R, hR⟩ : ∃ R, turnL (dn down j) (l.drop p) = R := ⟨_, rfl⟩
      rw [hR] at hx' cV hrl
      cases hd : dn down j with
      | false =>
        rw [hd] at cD
        rw [hd, turnL_false] at hR
        obtain ⟨SR, hSR⟩ : ∃ SR, str R = SR := ⟨_, rfl⟩
        rw [hSR] at cV
        rw [hR]
        rw [hR] at cut
        rw [hSR]
        rw [hSR] at cut
        clear hx hm hrt hdl cFl hSR
        cases hdx : dec1 okV R with
        | err E =>
          rw [hdx] at hx' cV
          have HX := Lib.hid hx'
          have hEne := dec1_okV_err _ E hdx
          have kE : (E != 0) = true := by simpa using hEne
          clear hx' hdx hEne cut
          go_wp2_with fail
          refine (cD _).mono ?_
          rintro e w1 ⟨rfl, rfl⟩
          clear cD
          go_wp2_with fail
          have hbw1 := hbw
          have ho1 := ho
          have c := cV _ hTr
          clear cV ho
          refine c.mono ?_
          rintro e w2 ⟨rfl, hb2⟩
          have eE : (Res.err E).e = E := rfl
          rw [eE]
          have hbf : Below w.heap.size w w2 := hbw1.trans (hb2.mono hbw1.size)
          clear c eE
          go_wp2_with fail
          go_ret2
          rw [← HX.out]
          exact ⟨.slice none 0 0, rfl, OwnV.nil _ _, hbf.alloc hbf.size _⟩
        | ok u k =>
          rw [hdx] at hx' cV
          have HX := Lib.hid hx'
          have hkR := (enc_dec1 okV R u k hdx).2.1
          have hpk : p + k ≤ ll := by have := hrl; rw [HLL.out] at this; omega
          have hkl := hkR
          have hct := cut k hkl
          obtain ⟨uv, huv⟩ : ∃ uv, u.v = uv := ⟨_, rfl⟩
          have HU := Lib.hid huv
          have eV : Hid ((Res.ok u k).v = uv) := huv
          clear hx' hdx huv cut hkR hkl
          go_wp2_with fail
          refine (cD _).mono ?_
          rintro e w1 ⟨rfl, rfl⟩
          clear cD
          go_wp2_with fail
          have hbw1 := hbw
          have ho1 := ho
          have c := cV _ hTr
          clear cV ho
          refine c.mono ?_
          rintro e w2 ⟨rfl, hb2⟩
          have eE : (Res.ok u k).e = 0 := rfl
          have eK : (Res.ok u k).k = k := rfl
          rw [eE, eK, eV.out]
          have hbf : Below w.heap.size w w2 := hbw1.trans (hb2.mono hbw1.size)
          have ho2 := ho1.keep hb2
          have ho4 : ∀ o, OwnV (w2.alloc o) w.heap.size _ (vs.map CodeMath.Val.v) := fun o => World.ownsRow.alloc ho2 o
          have hM4 : ∀ o, w.heap.size ≤ (w2.alloc o).heap.size := fun o => by have := hbf.size; simp; omega
          clear c eE eK ho1
          go_wp2_with (first | (at_builtin; refine wpList_append_val rfl (.tmp 43) (.tmp 45) rfl w.heap.size _ _ rfl (ho4 _) uv _ rfl (by first | rfl | simp) hlv (hM4 _) ?_; intro v1 w5 ho5 hb5 hgg) | fail)
          clear hgg
          go_roundw
          case rel =>
            refine ⟨j + 1, p + k, vs ++ [u], by omega, by go_num, rfl, hpk, (show (vs ++ [u]).length = j + 1 by rw [List.length_append, hvl.out]; rfl), ?_, ((hbf.alloc hbf.size _).trans hb5), ?_⟩
            · rw [List.map_append, List.map_cons, List.map_nil, HU.out]; exact ho5
            · have := HX.out
              rw [show n - (j + 1) = m by have := HJ.out; omega]
              exact this
          case measure => simp [intOf]; omega
      | true =>
        rw [hd] at cD
        rw [hd] at hR
        rw [hR] at cFl
        obtain ⟨SR, hSR⟩ : ∃ SR, str R = SR := ⟨_, rfl⟩
        rw [hSR] at cFl cV
        clear hx hm hrt hdl hSR
        cases hdx : dec1 okV R with
        | err E =>
          rw [hdx] at hx' cV
          have HX := Lib.hid hx'
          have hEne := dec1_okV_err _ E hdx
          have kE : (E != 0) = true := by simpa using hEne
          clear hx' hdx hEne cut
          go_wp2_with fail
          refine (cD _).mono ?_
          rintro e w1 ⟨rfl, rfl⟩
          clear cD
          go_wp2_with fail
          refine (cFl _).mono ?_
          rintro e w1 ⟨rfl, hb1⟩
          have hbw1 : Below w.heap.size w w1 := hbw.trans (hb1.mono hsz)
          have ho1 := ho.keep hb1
          have c := cV w1 (tabs_below hTr hb1)
          clear cFl cV ho hb1
          go_wp2_with fail
          refine c.mono ?_
          rintro e w2 ⟨rfl, hb2⟩
          have eE : (Res.err E).e = E := rfl
          rw [eE]
          have hbf : Below w.heap.size w w2 := hbw1.trans (hb2.mono hbw1.size)
          clear c eE
          go_wp2_with fail
          go_ret2
          rw [← HX.out]
          exact ⟨.slice none 0 0, rfl, OwnV.nil _ _, hbf.alloc hbf.size _⟩
        | ok u k =>
          rw [hdx] at hx' cV
          have HX := Lib.hid hx'
          have hkR := (enc_dec1 okV R u k hdx).2.1
          have hpk : p + k ≤ ll := by have := hrl; rw [HLL.out] at this; omega
          have hkl := hkR
          rw [← hR, turnL_length] at hkl
          have hct := cut k hkl
          obtain ⟨uv, huv⟩ : ∃ uv, u.v = uv := ⟨_, rfl⟩
          have HU := Lib.hid huv
          have eV : Hid ((Res.ok u k).v = uv) := huv
          clear hx' hdx huv cut hkR hkl
          go_wp2_with fail
          refine (cD _).mono ?_
          rintro e w1 ⟨rfl, rfl⟩
          clear cD
          go_wp2_with fail
          refine (cFl _).mono ?_
          rintro e w1 ⟨rfl, hb1⟩
          have hbw1 : Below w.heap.size w w1 := hbw.trans (hb1.mono hsz)
          have ho1 := ho.keep hb1
          have c := cV w1 (tabs_below hTr hb1)
          clear cFl cV ho hb1
          go_wp2_with fail
          refine c.mono ?_
          rintro e w2 ⟨rfl, hb2⟩
          have eE : (Res.ok u k).e = 0 := rfl
          have eK : (Res.ok u k).k = k := rfl
          rw [eE, eK, eV.out]
          have hbf : Below w.heap.size w w2 := hbw1.trans (hb2.mono hbw1.size)
          have ho2 := ho1.keep hb2
          have ho4 : ∀ o, OwnV (w2.alloc o) w.heap.size _ (vs.map CodeMath.Val.v) := fun o => World.ownsRow.alloc ho2 o
          have hM4 : ∀ o, w.heap.size ≤ (w2.alloc o).heap.size := fun o => by have := hbf.size; simp; omega
          clear c eE eK ho1
          go_wp2_with (first | (at_builtin; refine wpList_append_val rfl (.tmp 43) (.tmp 45) rfl w.heap.size _ _ rfl (ho4 _) uv _ rfl (by first | rfl | simp) hlv (hM4 _) ?_; intro v1 w5 ho5 hb5 hgg) | fail)
          clear hgg
          go_roundw
          case rel =>
            refine ⟨j + 1, p + k, vs ++ [u], by omega, by go_num, rfl, hpk, (show (vs ++ [u]).length = j + 1 by rw [List.length_append, hvl.out]; rfl), ?_, ((hbf.alloc hbf.size _).trans hb5), ?_⟩
            · rw [List.map_append, List.map_cons, List.map_nil, HU.out]; exact ho5
            · have := HX.out
              rw [show n - (j + 1) = m by have := HJ.out; omega]
              exact this
          case measure => simp [intOf]; omega
    · have hjn : j = n := by omega
      have hx' := hx.out
      rw [hjn, Nat.sub_self] at hx'
      simp only [decRow] at hx'
      have hbl : ((str (l.drop p)).toList == []) = (l.drop p == []) := by rw [str_toList]
      obtain ⟨SP, hSP⟩ : ∃ SP, str (l.drop p) = SP := ⟨_, rfl⟩
      rw [hSP] at hbl ⊢
      by_cases hp0 : l.drop p = []
      · rw [if_pos hp0] at hx'
        have HX := Lib.hid hx'
        have hb0 : (SP.toList == []) = true := by rw [hbl, hp0]; rfl
        clear hx' hx hp0 hjn hbl hSP
        go_wp2_with fail
        go_ret2
        rw [← HX.out]
        exact ⟨_, rfl, (by simpa [glue, CodeMath.RRes.vs] using ho), hbw⟩
      · rw [if_neg hp0] at hx'
        have HX := Lib.hid hx'
        have hb0 : (SP.toList == []) = false := by rw [hbl]; simpa using hp0
        clear hx' hx hp0 hjn hbl hSP
        go_wp2_with fail
        go_ret2
        rw [← HX.out]
        exact ⟨.slice none 0 0, rfl, OwnV.nil _ _, hbw⟩

set_option maxRecDepth 100000 in
theorem rowOf_out (l : List UInt8) (n : Int) (down : Int) (ao : Option Addr) (cap : Nat) (w : World) (hn : n < 0 ∨ 5 < n) :
    Calls Tryd.prog 14 #[.slice ao l.length cap, .int .i64 n, .int .i64 down] w (DecOk (.err 1) w) := by
  unfold DecOk
  generalize l.length = ll
  rcases hn with hn | hn
  · go_enter Tryd.func14, Tryd.ntmps14
    go_wp2
    go_ret2
    exact ⟨.slice none 0 0, rfl, OwnV.nil _ _, Below.refl _ _⟩
  · have h0 : ¬ n < 0 := by omega
    go_enter Tryd.func14, Tryd.ntmps14
    go_wp2
    go_ret2
    exact ⟨.slice none 0 0, rfl, OwnV.nil _ _, Below.refl _ _⟩
theorem rowOf_any (l : List UInt8) (n : Int) (down : Int) (ao : Option Addr) (cap : Nat) (w : World) (hl : l.length ≤ 4611686018427387904) (h : Bytes w ao l) (hT : Tabs w) :
    Calls Tryd.prog 14 #[.slice ao l.length cap, .int .i64 n, .int .i64 down] w (DecOk (decE l n down) w) := by
  unfold decE
  by_cases hn : n < 0 ∨ 5 < n
  · rw [if_pos hn]; exact rowOf_out l n down ao cap w hn
  · rw [if_neg hn]
    have e : n = ((n.toNat : Nat) : Int) := by omega
    have := rowOf_in l n.toNat down ao cap w (by omega) hl h hT
    rw [← e] at this
    exact this
end Go.Proofs.YtdbdlheilckcoaaDoor
