/- My own work: releases as a map's keys; names; packages and needs as they lie in memory. My own work: what is wrong with a package, and with a need; too many. My own work: Right: what is wrong with packages. -/
import Derived.Test.YtdhmlcelofnkgaaGreatDoorXA
import Derived.Laws.StructEq
import Derived.WideKeyRuns
import Derived.Maps.RangeRun
import Derived.Deep.MidRow
import Derived.Test.YtdhmlcelofnkgaaGreatDoorVQ
import Derived.WideMake
namespace Go.Proofs.YtdhmlcelofnkgaaGreatDoor
open Go.RowKit
open Go.ChangeMaps (setBlock)

theorem setBlock_same {w : World} {m : Nat} {o : Obj} (h : m < w.heap.size) : (setBlock w m o).heap[m]? = some o := by simp [setBlock, h]
theorem setBlock_other {w : World} {m k : Nat} {o : Obj} (h : k ≠ m) : (setBlock w m o).heap[k]? = w.heap[k]? := by simp [setBlock, Ne.symm h]
theorem setBlock_size (w : World) (m : Nat) (o : Obj) : (setBlock w m o).heap.size = w.heap.size := by simp [setBlock]
theorem below_setBlock {w : World} {m B : Nat} (o : Obj) (h : B ≤ m) : Below B w (setBlock w m o) := ⟨rfl, rfl, rfl, by rw [setBlock_size]; exact Nat.le_refl _, fun k hk => setBlock_other (by omega)⟩

/-- A name and a version's text as a key. -/
abbrev Rl := ByteArray × ByteArray
abbrev rkey (x : Rl) : Value := .agg #[.string x.1, .string x.2]
theorem fields_rel : Tryz.prog.fieldsOf 63 = #[{ name := "name", type := 9, offset := 0, embedded := false, tag := "", pkgPath := "stillroom/index", byteOffset := 0 }, { name := "version", type := 9, offset := 1, embedded := false, tag := "", pkgPath := "stillroom/index", byteOffset := 16 }] := by kernel_rfl
theorem part_str (a b : Value) (w : World) : (part 9 #[a, b] 0).run Tryz.prog w = .ok a w ∧ (part 9 #[a, b] 1).run Tryz.prog w = .ok b w := ⟨by kernel_rfl, by kernel_rfl⟩
theorem list_eq {a b : ByteArray} : a.toList = b.toList ↔ a = b := ⟨fun e => by rw [ByteArray.toList_eq, ByteArray.toList_eq] at e; exact vb_inj e, fun e => by rw [e]⟩
theorem equal_rel (x y : Rl) (w : World) : (Op.equal 63 (rkey x) (rkey y)).run Tryz.prog w = .ok (decide (x = y)) w := by
  obtain ⟨a, b⟩ := x
  obtain ⟨c, d⟩ := y
  have h := run_equalIn_struct (P := Tryz.prog) w 9999 63 #[.string a, .string b] #[.string c, .string d] (by rw [fields_rel]; exact Tryz.underlying63) (by kernel_rfl)
  refine (show (Op.equal 63 (rkey (a, b)) (rkey (c, d))).run Tryz.prog w = _ from h).trans ?_
  rw [fields_rel]
  have p1 := part_str (.string a) (.string b) w
  have p2 := part_str (.string c) (.string d) w
  have q1 := run_equalIn_string (P := Tryz.prog) w 9998 9 a c Tryz.underlying9
  have q2 := run_equalIn_string (P := Tryz.prog) w 9998 9 b d Tryz.underlying9
  simp only [Op.eqFields, Sem.run_bind, Sem.run_ite, p1.1, p1.2, p2.1, p2.2, q1, q2, Result.andThen_ok, Sem.run_pure]
  by_cases h1 : a = c
  · subst h1
    by_cases h2 : b = d
    · subst h2
      simp
    · have : ¬ b.toList = d.toList := fun e => h2 (list_eq.1 e)
      simp [h2, this]
  · have : ¬ a.toList = c.toList := fun e => h1 (list_eq.1 e)
    simp [h1, this]
theorem check_rel (x : Rl) (em : Bool) (w : World) : (Instr.checkKey em 10000 63 (rkey x)).run Tryz.prog w = .ok () w := by
  cases em <;> kernel_rfl
theorem askingR (x : Rl) (w : World) : ∀ (es : List MapEntry) (E : List Rl) (i : Nat), es.map (·.key) = E.map rkey →
    (x ∉ E ∧ (Instr.findAsking 63 (rkey x) es i).run Tryz.prog w = .ok none w) ∨ ∃ j e, es[j]? = some e ∧ x ∈ E ∧ (Instr.findAsking 63 (rkey x) es i).run Tryz.prog w = .ok (some (i + j, e.val)) w
  | [], E, i, h => by
    have : E = [] := by cases E with | nil => rfl | cons a b => cases h
    subst this
    exact .inl ⟨List.not_mem_nil, by simp [Instr.findAsking]⟩
  | e :: es, E, i, h => by
    cases E with
    | nil => cases h
    | cons y E =>
      simp only [List.map_cons, List.cons.injEq] at h
      have hq := equal_rel x y w
      rw [← h.1] at hq
      by_cases hxy : x = y
      · subst hxy
        rw [decide_eq_true rfl] at hq
        refine .inr ⟨0, e, rfl, List.mem_cons_self, ?_⟩
        simp [Instr.findAsking, hq]
      · rw [decide_eq_false hxy] at hq
        rcases askingR x w es E (i + 1) h.2 with ⟨h1, h2⟩ | ⟨j, e', h1, h3, h4⟩
        · refine .inl ⟨fun hm => ?_, by simp [Instr.findAsking, hq, h2]⟩
          rcases List.mem_cons.1 hm with hm | hm
          · exact hxy hm
          · exact h1 hm
        · refine .inr ⟨j + 1, e', h1, List.mem_cons_of_mem _ h3, ?_⟩
          simp [Instr.findAsking, hq, h4]
          omega
/-- Block m is a map whose keys are just these releases. -/
structure RelAt (w : World) (m : Nat) (E : List Rl) : Prop where
  ex : ∃ es clk, w.heap[m]? = some (.map es clk) ∧ es.toList.map (·.key) = E.map rkey ∧ ∀ e ∈ es.toList, ∃ z : Int, e.val = .int .i64 z
theorem find_rel {w : World} {E : List Rl} {es : Array MapEntry} (hk : es.toList.map (·.key) = E.map rkey) (x : Rl) : (x ∉ E ∧ (Instr.findKey 63 (rkey x) es.toList).run Tryz.prog w = .ok none w) ∨ ∃ j e, es[j]? = some e ∧ x ∈ E ∧ (Instr.findKey 63 (rkey x) es.toList).run Tryz.prog w = .ok (some (j, e.val)) w := by
  have he := run_findKey_eq (P := Tryz.prog) w (k := 63) (by rw [Tryz.underlying63]) (rkey x) es.toList
  rw [he]
  rcases askingR x w es.toList E 0 hk with h1 | ⟨j, e, h1, h3, h4⟩
  · exact .inl h1
  · exact .inr ⟨j, e, by simpa using h1, h3, by simpa using h4⟩
/-- A release is asked for. -/
theorem lookup_rel {w : World} {m : Nat} {E : List Rl} (h : RelAt w m E) (x : Rl) : ∃ z : Int, (x ∈ E ∧ (Instr.lookup 60 (.map (some m)) (rkey x) true).run Tryz.prog w = .ok (.tuple #[.int .i64 z, .bool true]) w) ∨ (x ∉ E ∧ (Instr.lookup 60 (.map (some m)) (rkey x) true).run Tryz.prog w = .ok (.tuple #[.int .i64 z, .bool false]) w) := by
  obtain ⟨es, clk, h0, hk, hv⟩ := h.ex
  have hz : ∀ w, (zeroValue 3).run Tryz.prog w = .ok (.int .i64 0) w := fun w => by kernel_rfl
  have hu := run_underlying (P := Tryz.prog) Tryz.underlying60
  have hc := check_rel x es.isEmpty w
  rcases find_rel (w := w) hk x with ⟨h1, h2⟩ | ⟨j, e, h1, h3, h4⟩
  · refine ⟨0, Or.inr ⟨h1, ?_⟩⟩
    simp [Instr.lookup, hu, MapKept.run_getObj_map h0, hc, h2, hz, Result.andThen]
  · obtain ⟨z, hz2⟩ := hv e (by simpa using Array.mem_of_getElem? h1)
    refine ⟨z, Or.inl ⟨h3, ?_⟩⟩
    rw [hz2] at h4
    simp [Instr.lookup, hu, MapKept.run_getObj_map h0, hc, h4, Result.andThen]
/-- A release that isn't there is put. -/
theorem put_rel {w : World} {m : Nat} {E : List Rl} (h : RelAt w m E) {x : Rl} (hx : x ∉ E) (z : Int) : ∃ o, (Instr.mapUpdate 60 (.map (some m)) (rkey x) (.int .i64 z)).run Tryz.prog w = .ok () (setBlock w m o) ∧ RelAt (setBlock w m o) m (E ++ [x]) := by
  obtain ⟨es, clk, h0, hk, hv⟩ := h.ex
  have hu := run_underlying (P := Tryz.prog) Tryz.underlying60
  have hc := check_rel x false w
  have hlt : m < w.heap.size := (Array.getElem?_eq_some_iff.1 h0).1
  have hset : ∀ o, (setObj m o).run Tryz.prog w = .ok () (setBlock w m o) := fun o => by simp [setObj, Sem.run, h0, setBlock]
  rcases find_rel (w := w) hk x with ⟨h1, h2⟩ | ⟨j, e, h1, h3, h4⟩
  · refine ⟨.map (es.push { key := rkey x, val := .int .i64 z, born := clk }) (clk + 1), ?_, ⟨es.push { key := rkey x, val := .int .i64 z, born := clk }, clk + 1, setBlock_same hlt, ?_, fun e he => ?_⟩⟩
    · simp [Instr.mapUpdate, hu, MapKept.run_getObj_map h0, hc, h2, hset, Result.andThen]
    · simp [hk]
    · rw [Array.toList_push] at he
      rcases List.mem_append.1 he with he | he
      · exact hv e he
      · rw [List.mem_singleton] at he
        exact ⟨z, by rw [he]⟩
  · exact absurd h3 hx
theorem rel_new (w : World) : RelAt (w.alloc (.map #[] 0)) w.heap.size [] := ⟨#[], 0, heap_alloc_new w _, rfl, fun e he => by cases he⟩
theorem RelAt.lt {w : World} {m : Nat} {E : List Rl} (h : RelAt w m E) : m < w.heap.size := by
  obtain ⟨es, clk, h0, _⟩ := h.ex
  exact (Array.getElem?_eq_some_iff.1 h0).1
theorem RelAt.keep {w w' : World} {m : Nat} {E : List Rl} (h : RelAt w m E) (hb : w'.heap[m]? = w.heap[m]?) : RelAt w' m E := by
  obtain ⟨es, clk, h0, h1⟩ := h.ex
  exact ⟨es, clk, hb.trans h0, h1⟩
theorem RelAt.next {w w' : World} {m : Nat} {E : List Rl} (h : RelAt w m E) (hb : Below w.heap.size w w') : RelAt w' m E := h.keep (hb.block m h.lt)
/-- Needs in memory. -/
abbrev encN (n : Ned) : List Value := [.string n.nm, .string n.rg]
structure NeedsIn (W : World) (v : Value) (L : List Ned) : Prop where
  ex : ∃ a g off c, v = .slice a L.length c ∧ L.length ≤ c ∧ (0 < L.length → a = some ⟨g, off, none⟩ ∧ g < W.heap.size) ∧ (a = none → c = 0) ∧ ∀ i (h : i < L.length), W.rangeAt g (off + i * 2) (encN L[i])
theorem NeedsIn.keep {W W' : World} {v : Value} {L : List Ned} {B : Nat} (h : NeedsIn W v L) (hB : W.heap.size ≤ B) (hb : Below B W W') : NeedsIn W' v L := by
  obtain ⟨a, g, off, c, h1, h2, h3, h4, h5⟩ := h.ex
  exact ⟨a, g, off, c, h1, h2, fun h => ⟨(h3 h).1, Nat.lt_of_lt_of_le (h3 h).2 hb.size⟩, h4, fun i hi j u hj => (hb.cell (p := ⟨g, off + i * 2 + j, none⟩) (by have := (h3 (by omega)).2; show g < B; omega)).trans (h5 i hi j u hj)⟩
/-- Packages in memory. -/
abbrev encP (p : Pak) (nv : Value) : List Value := [.string p.nm, .string p.vr, nv]
structure PacksIn (W : World) (v : Value) (L : List Pak) : Prop where
  ex : ∃ a g off c, v = .slice a L.length c ∧ L.length ≤ c ∧ (0 < L.length → a = some ⟨g, off, none⟩ ∧ g < W.heap.size) ∧ (a = none → c = 0) ∧ ∀ i (h : i < L.length), ∃ nv, W.rangeAt g (off + i * 3) (encP L[i] nv) ∧ NeedsIn W nv L[i].nd
theorem PacksIn.keep {W W' : World} {v : Value} {L : List Pak} {B : Nat} (h : PacksIn W v L) (hB : W.heap.size ≤ B) (hb : Below B W W') : PacksIn W' v L := by
  obtain ⟨a, g, off, c, h1, h2, h3, h4, h5⟩ := h.ex
  refine ⟨a, g, off, c, h1, h2, fun h => ⟨(h3 h).1, Nat.lt_of_lt_of_le (h3 h).2 hb.size⟩, h4, fun i hi => ?_⟩
  obtain ⟨nv, k1, k2⟩ := h5 i hi
  exact ⟨nv, fun j u hj => (hb.cell (p := ⟨g, off + i * 3 + j, none⟩) (by have := (h3 (by omega)).2; show g < B; omega)).trans (k1 j u hj), k2.keep hB hb⟩
/-- A small letter; a digit. -/
theorem letter_ok (b : UInt8) (w : World) : Calls Tryz.prog 31 #[.int .u8 (b.toNat : Int)] w fun e w' => e = .returned (.bool (lowB b)) ∧ w' = w := by
  by_cases h1 : 97 ≤ b.toNat
  · have h1' : (97 : Int) ≤ (b.toNat : Int) := by omega
    by_cases h2 : b.toNat ≤ 122
    · have h2' : (b.toNat : Int) ≤ 122 := by omega
      have HL : Hid (lowB b = true) := by show _ = _; unfold lowB; exact decide_eq_true ⟨h1, h2⟩
      go_enter Tryz.func31, Tryz.ntmps31
      go_wp2
      go_ret
      exact ⟨by rw [HL.out]; rfl, rfl⟩
    · have h2' : ¬ (b.toNat : Int) ≤ 122 := by omega
      have HL : Hid (lowB b = false) := by show _ = _; unfold lowB; exact decide_eq_false fun h => h2 h.2
      go_enter Tryz.func31, Tryz.ntmps31
      go_wp2
      go_ret
      exact ⟨by rw [HL.out]; rfl, rfl⟩
  · have h1' : ¬ (97 : Int) ≤ (b.toNat : Int) := by omega
    have HL : Hid (lowB b = false) := by show _ = _; unfold lowB; exact decide_eq_false fun h => h1 h.1
    go_enter Tryz.func31, Tryz.ntmps31
    go_wp2
    go_ret
    exact ⟨by rw [HL.out]; rfl, rfl⟩
theorem digit_ok (b : UInt8) (w : World) : Calls Tryz.prog 32 #[.int .u8 (b.toNat : Int)] w fun e w' => e = .returned (.bool (digB b)) ∧ w' = w := by
  by_cases h1 : 48 ≤ b.toNat
  · have h1' : (48 : Int) ≤ (b.toNat : Int) := by omega
    by_cases h2 : b.toNat ≤ 57
    · have h2' : (b.toNat : Int) ≤ 57 := by omega
      have HL : Hid (digB b = true) := (digB_iff b).2 ⟨h1, h2⟩
      go_enter Tryz.func32, Tryz.ntmps32
      go_wp2
      go_ret
      exact ⟨by rw [HL.out]; rfl, rfl⟩
    · have h2' : ¬ (b.toNat : Int) ≤ 57 := by omega
      have HL : Hid (digB b = false) := by
        show _ = _
        cases e : digB b with
        | false => rfl
        | true => exact absurd ((digB_iff b).1 e).2 h2
      go_enter Tryz.func32, Tryz.ntmps32
      go_wp2
      go_ret
      exact ⟨by rw [HL.out]; rfl, rfl⟩
  · have h1' : ¬ (48 : Int) ≤ (b.toNat : Int) := by omega
    have HL : Hid (digB b = false) := by
      show _ = _
      cases e : digB b with
      | false => rfl
      | true => exact absurd ((digB_iff b).1 e).1 h1
    go_enter Tryz.func32, Tryz.ntmps32
    go_wp2
    go_ret
    exact ⟨by rw [HL.out]; rfl, rfl⟩
theorem drop_atI {s : ByteArray} {k : Nat} (h : k < s.size) : (vb s).drop k = s[k] :: (vb s).drop (k + 1) := by
  rw [List.drop_eq_getElem_cons (by rw [vb_len]; exact h)]
  rfl
theorem nm_step {l : By} {i : Nat} (h : i < l.length) : (l.drop i).all nmB = (nmB l[i] && (l.drop (i + 1)).all nmB) := by
  rw [List.drop_eq_getElem_cons h, List.all_cons]
set_option maxRecDepth 20000 in
set_option maxHeartbeats 4000000 in
/-- May a package have a name? -/
theorem name_call (s : ByteArray) (hs : s.size ≤ 140737488355328) (w : World) : Calls Tryz.prog 19 #[.string s] w fun e w' => e = .returned (.bool (nameI (vb s))) ∧ w' = w := by
  have hlv := vb_len s
  have HD : Hid (nameI (vb s) = (decide (1 ≤ s.size ∧ s.size ≤ 20) && ((vb s).take 1).all lowB && (vb s).all nmB)) := by show _ = _; unfold nameI; rw [hlv]
  by_cases h1 : 1 ≤ s.size
  · have h1' : ¬ (s.size : Int) < 1 := by omega
    by_cases h20 : s.size ≤ 20
    · have h20' : ¬ (20 : Int) < (s.size : Int) := by omega
      obtain ⟨b0, hb0⟩ : ∃ b, b = s[0] := ⟨_, rfl⟩
      have hb0' : s[0].toNat = b0.toNat := by rw [hb0]
      have hl0 := letter_ok b0 w
      have HT : Hid (((vb s).take 1).all lowB = lowB b0) := by
        show _ = _
        have e : (vb s).take 1 = [b0] := by
          have h2 : (vb s).drop 0 = s[0] :: (vb s).drop 1 := drop_atI h1
          rw [List.drop_zero] at h2
          rw [h2, hb0]
          rfl
        rw [e]
        simp
      have h0i : (0 : Int) < (s.size : Int) := by omega
      clear hb0
      cases hlo : lowB b0 with
      | false =>
        rw [hlo] at hl0
        have HF : Hid (nameI (vb s) = false) := by show _ = _; rw [HD.out, HT.out, hlo, Bool.and_false, Bool.false_and]
        clear hlo hlv
        go_enter Tryz.func19, Tryz.ntmps19
        go_wp2_with fail
        refine hl0.mono ?_
        rintro e w1 ⟨rfl, hw1⟩
        rw [hw1]
        clear hw1 hl0
        go_wp2
        go_ret
        exact ⟨by rw [HF.out]; rfl, rfl⟩
      | true =>
        rw [hlo] at hl0
        have HA : Hid (nameI (vb s) = (vb s).all nmB) := by show _ = _; rw [HD.out, HT.out, hlo, decide_eq_true ⟨h1, h20⟩]; rfl
        obtain ⟨R, hR⟩ : ∃ R, R = nameI (vb s) := ⟨_, rfl⟩
        rw [← hR]
        rw [← hR] at HA
        clear hlo hlv hR
        go_enter Tryz.func19, Tryz.ntmps19
        go_wp2_with fail
        refine hl0.mono ?_
        rintro e w1 ⟨rfl, hw1⟩
        rw [hw1]
        clear hw1 hl0
        go_wp2
        go_loop [20] (fun iv => ∃ i : Nat, i ≤ s.size ∧ iv = .int .i64 i ∧ Hid (((vb s).drop i).all nmB = R)) (fun iv => s.size - (intOf iv).toNat)
        case atStart => exact ⟨0, Nat.zero_le _, rfl, by rw [List.drop_zero]; exact HA.out.symm⟩
        case round =>
          obtain ⟨i, hi, rfl, HI⟩ := hrel
          by_cases hlt : i < s.size
          · have hlt' : (i : Int) < (s.size : Int) := by omega
            obtain ⟨b, hb⟩ : ∃ b, b = s[i] := ⟨_, rfl⟩
            have hb' : s[i].toNat = b.toNat := by rw [hb]
            have HS : Hid (((vb s).drop i).all nmB = (nmB b && ((vb s).drop (i + 1)).all nmB)) := by
              show _ = _
              rw [drop_atI hlt, List.all_cons, hb]
            have hlc := letter_ok b w
            have hdc := digit_ok b w
            clear hb
            cases hl : lowB b with
            | true =>
              rw [hl] at hlc
              have HN : Hid (((vb s).drop (i + 1)).all nmB = R) := by
                have h := HI.out
                rw [HS.out] at h
                unfold nmB at h
                rw [hl] at h
                exact h
              clear hl hdc
              go_wp2_with fail
              refine hlc.mono ?_
              rintro e w1 ⟨rfl, hw1⟩
              rw [hw1]
              clear hw1 hlc
              go_wp2
              go_round
              case rel => exact ⟨i + 1, by omega, by go_num, HN.out⟩
              case measure => simp [intOf]; omega
            | false =>
              rw [hl] at hlc
              cases hd : digB b with
              | true =>
                rw [hd] at hdc
                have HN : Hid (((vb s).drop (i + 1)).all nmB = R) := by
                  have h := HI.out
                  rw [HS.out] at h
                  unfold nmB at h
                  rw [hl, hd] at h
                  exact h
                clear hl hd
                go_wp2_with fail
                refine hlc.mono ?_
                rintro e w1 ⟨rfl, hw1⟩
                rw [hw1]
                clear hw1 hlc
                go_wp2_with fail
                refine hdc.mono ?_
                rintro e w1 ⟨rfl, hw1⟩
                rw [hw1]
                clear hw1 hdc
                go_wp2
                go_round
                case rel => exact ⟨i + 1, by omega, by go_num, HN.out⟩
                case measure => simp [intOf]; omega
              | false =>
                rw [hd] at hdc
                by_cases h45 : b = 45
                · have HN : Hid (((vb s).drop (i + 1)).all nmB = R) := by
                    have h := HI.out
                    rw [HS.out] at h
                    unfold nmB at h
                    rw [hl, hd, h45] at h
                    exact h
                  have HV45 : Hid (b.toNat = 45) := by show _ = _; rw [h45]; rfl
                  clear hl hd h45
                  go_wp2_with fail
                  refine hlc.mono ?_
                  rintro e w1 ⟨rfl, hw1⟩
                  rw [hw1]
                  clear hw1 hlc
                  go_wp2_with fail
                  refine hdc.mono ?_
                  rintro e w1 ⟨rfl, hw1⟩
                  rw [hw1]
                  clear hw1 hdc
                  have hv45 := HV45.out
                  go_wp2
                  go_round
                  case rel => exact ⟨i + 1, by omega, by go_num, HN.out⟩
                  case measure => simp [intOf]; omega
                · have hv45 : ¬ (b.toNat : Int) = 45 := fun e => h45 (UInt8.toNat_inj.1 (by simpa using (by omega : b.toNat = 45)))
                  have hvb := beqI hv45
                  have HF : Hid (R = false) := by
                    show _ = _
                    rw [← HI.out, HS.out]
                    unfold nmB
                    rw [hl, hd]
                    have : (b == 45) = false := by simpa using h45
                    rw [this]
                    rfl
                  clear hl hd h45
                  go_wp2_with fail
                  refine hlc.mono ?_
                  rintro e w1 ⟨rfl, hw1⟩
                  rw [hw1]
                  clear hw1 hlc
                  go_wp2_with fail
                  refine hdc.mono ?_
                  rintro e w1 ⟨rfl, hw1⟩
                  rw [hw1]
                  clear hw1 hdc
                  go_wp2
                  go_ret
                  exact ⟨by rw [HF.out]; rfl, rfl⟩
          · have hlt' : ¬ (i : Int) < (s.size : Int) := by omega
            have HT2 : Hid (R = true) := by
              have h := HI.out
              rw [List.drop_of_length_le (by rw [vb_len]; omega)] at h
              exact h.symm
            go_wp2
            go_ret
            exact ⟨by rw [HT2.out]; rfl, rfl⟩
    · have h20' : (20 : Int) < (s.size : Int) := by omega
      have HF : Hid (nameI (vb s) = false) := by show _ = _; rw [HD.out, decide_eq_false (fun h => h20 h.2)]; rfl
      clear hlv
      go_enter Tryz.func19, Tryz.ntmps19
      go_wp2
      go_ret
      exact ⟨by rw [HF.out]; rfl, rfl⟩
  · have h1' : (s.size : Int) < 1 := by omega
    have HF : Hid (nameI (vb s) = false) := by show _ = _; rw [HD.out, decide_eq_false (fun h => h1 h.1)]; rfl
    clear hlv
    go_enter Tryz.func19, Tryz.ntmps19
    go_wp2
    go_ret
    exact ⟨by rw [HF.out]; rfl, rfl⟩
end Go.Proofs.YtdhmlcelofnkgaaGreatDoor
namespace Go.Proofs.YtdhmlcelofnkgaaGreatDoor
open Go.RowKit

theorem infoPk : (Tryz.prog.info? 44).map (·.size) = some 3 := by kernel_rfl
theorem infoNd : (Tryz.prog.info? 46).map (·.size) = some 2 := by kernel_rfl
set_option maxRecDepth 20000 in
set_option maxHeartbeats 4000000 in
theorem rightPack_ok (nm vr : ByteArray) (na : Option Addr) (nl nc : Nat) (hn : nm.size ≤ 140737488355328) (hv : vr.size ≤ 140737488355328) {m : Nat} {E : List Rl} (w : World) (h : RelAt w m E) : Calls Tryz.prog 26 #[.agg #[.string nm, .string vr, .slice na nl nc], .map (some m)] w fun e w' => e = .returned (.int .i64 (rightP nm vr E)) ∧ Below w.heap.size w w' := by
  have hr1 : Row (w.alloc (.cells #[.string nm, .string vr, .slice na nl nc] 44)) w.heap.size #[.string nm, .string vr, .slice na nl nc] 44 := Row.new _ _ _
  have hb1 : Below w.heap.size w (w.alloc (.cells #[.string nm, .string vr, .slice na nl nc] 44)) := (Below.refl _ _).alloc (Nat.le_refl _) _
  obtain ⟨w1, hw1⟩ : ∃ x, x = w.alloc (.cells #[.string nm, .string vr, .slice na nl nc] 44) := ⟨_, rfl⟩
  have hw1' := hw1.symm
  rw [← hw1] at hr1 hb1
  have c0 : w1.cell? ⟨w.heap.size, 0, none⟩ = some (.string nm) := (hr1.cell 0).trans rfl
  have c1 : w1.cell? ⟨w.heap.size, 1, none⟩ = some (.string vr) := (hr1.cell 1).trans rfl
  have hnc := name_call nm hn w1
  have hpa := parse_ok vr w1 hv
  have HR1 : Hid (Row w1 w.heap.size #[.string nm, .string vr, .slice na nl nc] 44) := hr1
  have HB1 : Hid (Below w.heap.size w w1) := hb1
  have HRel : Hid (RelAt w m E) := h
  have HD : Hid (rightP nm vr E = if nameI (vb nm) = false then 17 else if (parseV (vb vr)).isNone = true then 20 else if (nm, vr) ∈ E then 13 else 0) := rfl
  obtain ⟨R, hR⟩ : ∃ R, R = rightP nm vr E := ⟨_, rfl⟩
  rw [← hR] at HD ⊢
  clear hw1 hr1 hb1 hn hv h hR
  cases hni : nameI (vb nm) with
  | false =>
    have HF : Hid (R = 17) := by show _ = _; rw [HD.out, if_pos hni]
    rw [hni] at hnc
    clear hni hpa
    go_enter Tryz.func26, Tryz.ntmps26
    go_wp2_with fail
    refine hnc.mono ?_
    rintro e w2 ⟨rfl, hw2⟩
    rw [hw2]
    clear hw2 hnc
    go_wp2
    go_ret
    exact ⟨by rw [HF.out]; rfl, HB1.out⟩
  | true =>
    rw [hni] at hnc
    cases hp : parseV (vb vr) with
    | none =>
      have HF : Hid (R = 20) := by show _ = _; rw [HD.out, if_neg (by rw [hni]; decide), hp]; rfl
      rw [parseE_no hp] at hpa
      clear hni hp
      go_enter Tryz.func26, Tryz.ntmps26
      go_wp2_with fail
      refine hnc.mono ?_
      rintro e w2 ⟨rfl, hw2⟩
      rw [hw2]
      clear hw2 hnc
      go_wp2_with fail
      refine hpa.mono ?_
      rintro e w3 ⟨rfl, hb3⟩
      have HB3 : Hid (Below w.heap.size w (w3.alloc (.cells (verC zeroV) 98))) := (HB1.out.trans (hb3.mono HB1.out.size)).alloc (Nat.le_trans HB1.out.size hb3.size) _
      clear hpa hb3
      go_wp2_with (refine wpList_store_new rfl 98 _ _ rfl w3 zeroC (verC zeroV) 98 rfl w3.heap.size rfl rfl rfl infoVs rfl (verC_one _) ?_)
      go_ret
      exact ⟨by rw [HF.out]; rfl, HB3.out⟩
    | some v =>
      have HF0 : Hid (R = if (nm, vr) ∈ E then 13 else 0) := by show _ = _; rw [HD.out, if_neg (by rw [hni]; decide), hp, if_neg (by simp)]
      rw [parseE_yes hp] at hpa
      clear hni hp HD
      go_enter Tryz.func26, Tryz.ntmps26
      go_wp2_with fail
      refine hnc.mono ?_
      rintro e w2 ⟨rfl, hw2⟩
      rw [hw2]
      clear hw2 hnc
      go_wp2_with fail
      refine hpa.mono ?_
      rintro e w3 ⟨rfl, hb3⟩
      have hb4 : Below w1.heap.size w1 (w3.alloc (.cells (verC v) 98)) := hb3.alloc hb3.size _
      obtain ⟨w4, hw4⟩ : ∃ x, x = w3.alloc (.cells (verC v) 98) := ⟨_, rfl⟩
      rw [← hw4] at hb4
      have hw4' := hw4.symm
      have HB4 : Hid (Below w.heap.size w w4) := HB1.out.trans (hb4.mono HB1.out.size)
      have hr4 : Row w4 w.heap.size #[.string nm, .string vr, .slice na nl nc] 44 := HR1.out.below hb4 HR1.out.lt
      have d0 : w4.cell? ⟨w.heap.size, 0, none⟩ = some (.string nm) := (hr4.cell 0).trans rfl
      have d1 : w4.cell? ⟨w.heap.size, 1, none⟩ = some (.string vr) := (hr4.cell 1).trans rfl
      obtain ⟨z, hlk⟩ := lookup_rel (HRel.out.next HB4.out) (nm, vr)
      clear hpa hb3 hb4 hw4 hr4 c0 c1 hw1'
      rcases hlk with ⟨hin, hlk⟩ | ⟨hin, hlk⟩
      · have HF : Hid (R = 13) := by show _ = _; rw [HF0.out, if_pos hin]
        clear hin
        go_wp2_with (refine wpList_store_new rfl 98 _ _ rfl w3 zeroC (verC v) 98 rfl w3.heap.size rfl rfl rfl infoVs rfl (verC_one _) ?_; rw [hw4'])
        go_ret
        exact ⟨by rw [HF.out]; rfl, HB4.out⟩
      · have HF : Hid (R = 0) := by show _ = _; rw [HF0.out, if_neg hin]
        clear hin
        go_wp2_with (refine wpList_store_new rfl 98 _ _ rfl w3 zeroC (verC v) 98 rfl w3.heap.size rfl rfl rfl infoVs rfl (verC_one _) ?_; rw [hw4'])
        go_ret
        exact ⟨by rw [HF.out]; rfl, HB4.out⟩
/-- One name held against another. -/
theorem sameName_ok (o : Ned) (nm rg : ByteArray) (k : Nat) (w : World) (h : Row w k #[.string nm, .string rg] 46) : Calls Tryz.prog 46 #[.agg (encN o).toArray, .pointer (some ⟨k, 0, none⟩)] w fun e w' => e = .returned (.bool (decide (o.nm = nm))) ∧ Below w.heap.size w w' := by
  have hr1 : Row (w.alloc (.cells #[.string o.nm, .string o.rg] 46)) w.heap.size #[.string o.nm, .string o.rg] 46 := Row.new _ _ _
  have hb1 : Below w.heap.size w (w.alloc (.cells #[.string o.nm, .string o.rg] 46)) := (Below.refl _ _).alloc (Nat.le_refl _) _
  have hk := h.below hb1 h.lt
  obtain ⟨w1, hw1⟩ : ∃ x, x = w.alloc (.cells #[.string o.nm, .string o.rg] 46) := ⟨_, rfl⟩
  have hw1' := hw1.symm
  rw [← hw1] at hr1 hb1 hk
  have c0 : w1.cell? ⟨w.heap.size, 0, none⟩ = some (.string o.nm) := (hr1.cell 0).trans rfl
  have c1 : w1.cell? ⟨k, 0, none⟩ = some (.string nm) := (hk.cell 0).trans rfl
  have HB1 : Hid (Below w.heap.size w w1) := hb1
  clear hw1 hr1 hb1 hk h
  by_cases he : o.nm = nm
  · have HD : Hid (decide (o.nm = nm) = true) := decide_eq_true he
    rw [HD.out]
    rw [he] at c0
    clear he HD
    go_enter Tryz.func46, Tryz.ntmps46
    go_wp2
    go_ret
    exact ⟨rfl, HB1.out⟩
  · have HD : Hid (decide (o.nm = nm) = false) := decide_eq_false he
    rw [HD.out]
    have h1 : ¬ o.nm.toList = nm.toList := fun e => he (list_eq.1 e)
    have h2 : (o.nm.toList == nm.toList) = false := by simpa using h1
    clear he HD
    go_enter Tryz.func46, Tryz.ntmps46
    go_wp2
    go_ret
    exact ⟨rfl, HB1.out⟩
set_option maxRecDepth 20000 in
set_option maxHeartbeats 4000000 in
/-- The first need of a name, or none. -/
theorem indexNeed_ok {A : List Ned} {pv : Value} {nm rg : ByteArray} {k : Nat} (w : World) (hA : NeedsIn w pv A) (hk : Row w k #[.string nm, .string rg] 46) (hl : A.length ≤ 1000000000) : Calls Tryz.prog 73 #[pv, .func (.func 46) #[] #[.pointer (some ⟨k, 0, none⟩)]] w fun e w' => ∃ z : Int, e = .returned (.int .i64 z) ∧ (0 ≤ z ↔ nm ∈ A.map Ned.nm) ∧ Below w.heap.size w w' := by
  obtain ⟨a, g, off, c, rfl, h2, h3, h4, h5⟩ := hA.ex
  have HA1 : Hid (0 < A.length → a = some ⟨g, off, none⟩) := fun h => (h3 h).1
  have HAg : Hid (0 < A.length → g < w.heap.size) := fun h => (h3 h).2
  have HA5 : Hid (∀ wx, Below w.heap.size w wx → ∀ i (h : i < A.length), wx.rangeAt g (off + i * 2) (encN A[i])) := fun wx hx i hi j u hj => (hx.cell (p := ⟨g, off + i * 2 + j, none⟩) (h3 (by omega)).2).trans (h5 i hi j u hj)
  have HK : Hid (Row w k #[.string nm, .string rg] 46) := hk
  obtain ⟨n, hn⟩ : ∃ n, n = A.length := ⟨_, rfl⟩
  have HN : Hid (n = A.length) := hn
  have hnn : A.length = n := hn.symm
  rw [hnn]
  rw [hnn] at h2 hl
  clear hA h3 h4 h5 hk hn hnn
  go_enter Tryz.func73, Tryz.ntmps73
  go_wp2
  go_loopw [8] (fun iv wr => ∃ i : Nat, i ≤ n ∧ iv = .int .i64 i ∧ Below w.heap.size w wr ∧ Hid (∀ j (h : j < A.length), j < i → A[j].nm ≠ nm)) (fun iv _ => n - (intOf iv).toNat)
  case atStart => exact ⟨0, Nat.zero_le _, rfl, Below.refl _ _, fun j _ h => absurd h (by omega)⟩
  case round =>
    obtain ⟨i, hi, rfl, hb, HI⟩ := hrel
    have HB : Hid (Below w.heap.size w wr) := hb
    clear hb
    by_cases hlt : i < n
    · have hlt' : (i : Int) < (n : Int) := by omega
      have hiA : i < A.length := by have := HN.out; omega
      obtain rfl := HA1.out (by omega)
      have hrg := HA5.out wr HB.out i hiA
      obtain ⟨o, ho⟩ : ∃ o, o = A[i] := ⟨_, rfl⟩
      rw [← ho] at hrg
      have HO : Hid (o = A[i]) := ho
      have hcl := sameName_ok o nm rg k wr (HK.out.below HB.out HK.out.lt)
      clear ho
      by_cases he : o.nm = nm
      · rw [decide_eq_true he] at hcl
        have HMem : Hid (nm ∈ A.map Ned.nm) := List.mem_map.2 ⟨o, by rw [HO.out]; exact List.getElem_mem _, he⟩
        clear he
        go_wp2_with (first | refine wpList_load_mid rfl 46 _ rfl g (off + i * 2) rfl _ _ hrg Tryz.underlying46 rfl infoNd ?_ | (go_at_call 46; refine hcl.mono ?_; rintro e w9 ⟨rfl, hb9⟩))
        go_ret
        exact ⟨i, rfl, ⟨fun _ => HMem.out, fun _ => by omega⟩, HB.out.trans (hb9.mono HB.out.size)⟩
      · rw [decide_eq_false he] at hcl
        have HN2 : Hid (∀ j (h : j < A.length), j < i + 1 → A[j].nm ≠ nm) := fun j hj h => by
          by_cases e : j = i
          · subst e; rw [← HO.out]; exact he
          · exact HI.out j hj (by omega)
        clear he
        go_wp2_with (first | refine wpList_load_mid rfl 46 _ rfl g (off + i * 2) rfl _ _ hrg Tryz.underlying46 rfl infoNd ?_ | (go_at_call 46; refine hcl.mono ?_; rintro e w9 ⟨rfl, hb9⟩))
        go_roundw
        case rel => exact ⟨i + 1, by omega, by go_num, HB.out.trans (hb9.mono HB.out.size), HN2.out⟩
        case measure => simp [intOf]; omega
    · have hlt' : ¬ (i : Int) < (n : Int) := by omega
      have HNot : Hid (nm ∉ A.map Ned.nm) := fun h => by
        obtain ⟨o, h1, h2⟩ := List.mem_map.1 h
        obtain ⟨j, hj, he⟩ := List.getElem_of_mem h1
        exact HI.out j hj (by have := HN.out; omega) (by rw [he]; exact h2)
      go_wp2
      go_ret
      exact ⟨-1, rfl, ⟨fun h => absurd h (by decide), fun h => absurd (by first | exact h | exact List.mem_map.2 h) HNot.out⟩, HB.out⟩
theorem containsNeed_ok {A : List Ned} {pv : Value} {nm rg : ByteArray} {k : Nat} (w : World) (hA : NeedsIn w pv A) (hk : Row w k #[.string nm, .string rg] 46) (hl : A.length ≤ 1000000000) : Calls Tryz.prog 45 #[pv, .func (.func 46) #[] #[.pointer (some ⟨k, 0, none⟩)]] w fun e w' => ∃ b : Bool, e = .returned (.bool b) ∧ (b = true ↔ nm ∈ A.map Ned.nm) ∧ Below w.heap.size w w' := by
  have h := indexNeed_ok w hA hk hl
  go_enter Tryz.func45, Tryz.ntmps45
  go_wp2_with fail
  refine h.mono ?_
  rintro e w1 ⟨z, rfl, hz, hb⟩
  have HZ : Hid (0 ≤ z ↔ nm ∈ A.map Ned.nm) := hz
  clear h hz
  go_wp2
  go_ret
  exact ⟨decide (0 ≤ z), (by first | rfl | (congr 2)), by rw [decide_eq_true_eq]; exact HZ.out, hb⟩
set_option maxRecDepth 20000 in
set_option maxHeartbeats 4000000 in
theorem rightNeed_ok (nm rg : ByteArray) (hn : nm.size ≤ 140737488355328) (hv : rg.size ≤ 140737488355328) {A : List Ned} {pv : Value} (w : World) (hA : NeedsIn w pv A) (hl : A.length ≤ 1000000000) : Calls Tryz.prog 27 #[.agg #[.string nm, .string rg], pv] w fun e w' => e = .returned (.int .i64 (rightN ⟨nm, rg⟩ A)) ∧ Below w.heap.size w w' := by
  have hr1 : Row (w.alloc (.cells #[.string nm, .string rg] 46)) w.heap.size #[.string nm, .string rg] 46 := Row.new _ _ _
  have hb1 : Below w.heap.size w (w.alloc (.cells #[.string nm, .string rg] 46)) := (Below.refl _ _).alloc (Nat.le_refl _) _
  obtain ⟨w1, hw1⟩ : ∃ x, x = w.alloc (.cells #[.string nm, .string rg] 46) := ⟨_, rfl⟩
  have hw1' := hw1.symm
  rw [← hw1] at hr1 hb1
  have c0 : w1.cell? ⟨w.heap.size, 0, none⟩ = some (.string nm) := (hr1.cell 0).trans rfl
  have c1 : w1.cell? ⟨w.heap.size, 1, none⟩ = some (.string rg) := (hr1.cell 1).trans rfl
  have hnc := name_call nm hn w1
  have hpa := rangeParse_ok rg w1 hv
  have HR1 : Hid (Row w1 w.heap.size #[.string nm, .string rg] 46) := hr1
  have HB1 : Hid (Below w.heap.size w w1) := hb1
  have HA1 : Hid (NeedsIn w1 pv A) := hA.keep (Nat.le_refl _) hb1
  have HLn : Hid (A.length ≤ 1000000000) := hl
  have HD : Hid (rightN ⟨nm, rg⟩ A = if nameI (vb nm) = false then 17 else if (rangeS (vb rg)).isNone = true then 21 else if nm ∈ A.map Ned.nm then 13 else 0) := rfl
  obtain ⟨R, hR⟩ : ∃ R, R = rightN ⟨nm, rg⟩ A := ⟨_, rfl⟩
  rw [← hR] at HD ⊢
  clear hw1 hr1 hb1 hn hv hA hR hl
  cases hni : nameI (vb nm) with
  | false =>
    have HF : Hid (R = 17) := by show _ = _; rw [HD.out, if_pos hni]
    rw [hni] at hnc
    clear hni hpa
    go_enter Tryz.func27, Tryz.ntmps27
    go_wp2_with fail
    refine hnc.mono ?_
    rintro e w2 ⟨rfl, hw2⟩
    rw [hw2]
    clear hw2 hnc
    go_wp2
    go_ret
    exact ⟨by rw [HF.out]; rfl, HB1.out⟩
  | true =>
    rw [hni] at hnc
    unfold PaPost at hpa
    cases hp : rangeS (vb rg) with
    | none =>
      have HF : Hid (R = 21) := by show _ = _; rw [HD.out, if_neg (by rw [hni]; decide), hp]; rfl
      rw [hp] at hpa
      clear hni hp
      go_enter Tryz.func27, Tryz.ntmps27
      go_wp2_with fail
      refine hnc.mono ?_
      rintro e w2 ⟨rfl, hw2⟩
      rw [hw2]
      clear hw2 hnc
      go_wp2_with fail
      refine hpa.mono ?_
      rintro e w3 (⟨_, rfl, hb3⟩ | ⟨_, _, h, _⟩)
      · have HB3 : Hid (Below w.heap.size w w3) := HB1.out.trans (hb3.mono HB1.out.size)
        clear hpa hb3
        go_wp2
        go_ret
        exact ⟨by rw [HF.out]; rfl, HB3.out⟩
      · cases h
    | some S =>
      have HF0 : Hid (R = if nm ∈ A.map Ned.nm then 13 else 0) := by show _ = _; rw [HD.out, if_neg (by rw [hni]; decide), hp, if_neg (by simp)]
      rw [hp] at hpa
      clear hni hp HD
      go_enter Tryz.func27, Tryz.ntmps27
      go_wp2_with fail
      refine hnc.mono ?_
      rintro e w2 ⟨rfl, hw2⟩
      rw [hw2]
      clear hw2 hnc
      go_wp2_with fail
      refine hpa.mono ?_
      rintro e w3 (⟨h, _⟩ | ⟨_, p, _, rfl, hg, _, hb3⟩)
      · cases h
      · have HB3 : Hid (Below w.heap.size w w3) := HB1.out.trans (hb3.mono HB1.out.size)
        have hcn := containsNeed_ok (nm := nm) (rg := rg) (k := w.heap.size) w3 (HA1.out.keep (Nat.le_refl _) hb3) (HR1.out.below hb3 HR1.out.lt) HLn.out
        obtain ⟨gp, vp, rfl, _⟩ := hg.at'.ex
        clear hpa hb3 hg
        go_wp2_with fail
        refine hcn.mono ?_
        rintro e w4 ⟨b, rfl, hb, hb4⟩
        have HB4 : Hid (Below w.heap.size w w4) := HB3.out.trans (hb4.mono HB3.out.size)
        have HBB : Hid (b = true ↔ nm ∈ A.map Ned.nm) := hb
        clear hcn hb4 hb
        cases b with
        | true =>
          have HF : Hid (R = 13) := by show _ = _; rw [HF0.out, if_pos (HBB.out.1 rfl)]
          go_wp2
          go_ret
          exact ⟨by rw [HF.out]; rfl, HB4.out⟩
        | false =>
          have HF : Hid (R = 0) := by show _ = _; rw [HF0.out, if_neg (fun h => by have := HBB.out.2 h; cases this)]
          go_wp2
          go_ret
          exact ⟨by rw [HF.out]; rfl, HB4.out⟩
/-- More needs than may be? -/
theorem manyNeeds_ok (nm vr : ByteArray) (na : Option Addr) (nl nc : Nat) (w : World) : Calls Tryz.prog 42 #[.agg #[.string nm, .string vr, .slice na nl nc]] w fun e w' => e = .returned (.bool (decide (64 < nl))) ∧ Below w.heap.size w w' := by
  have hr1 : Row (w.alloc (.cells #[.string nm, .string vr, .slice na nl nc] 44)) w.heap.size #[.string nm, .string vr, .slice na nl nc] 44 := Row.new _ _ _
  have hb1 : Below w.heap.size w (w.alloc (.cells #[.string nm, .string vr, .slice na nl nc] 44)) := (Below.refl _ _).alloc (Nat.le_refl _) _
  obtain ⟨w1, hw1⟩ : ∃ x, x = w.alloc (.cells #[.string nm, .string vr, .slice na nl nc] 44) := ⟨_, rfl⟩
  have hw1' := hw1.symm
  rw [← hw1] at hr1 hb1
  have c2 : w1.cell? ⟨w.heap.size, 2, none⟩ = some (.slice na nl nc) := (hr1.cell 2).trans rfl
  have HB1 : Hid (Below w.heap.size w w1) := hb1
  clear hw1 hr1 hb1
  by_cases h : 64 < nl
  · have h' : (64 : Int) < (nl : Int) := by omega
    rw [decide_eq_true h]
    go_enter Tryz.func42, Tryz.ntmps42
    go_wp2
    go_ret
    exact ⟨rfl, HB1.out⟩
  · have h' : ¬ (64 : Int) < (nl : Int) := by omega
    rw [decide_eq_false h]
    go_enter Tryz.func42, Tryz.ntmps42
    go_wp2
    go_ret
    exact ⟨rfl, HB1.out⟩
set_option maxRecDepth 20000 in
set_option maxHeartbeats 4000000 in
theorem indexPack_ok {L : List Pak} {pv : Value} (w : World) (hL : PacksIn w pv L) (hl : L.length ≤ 1000000000) : Calls Tryz.prog 65 #[pv, .func (.func 42) #[] #[]] w fun e w' => ∃ z : Int, e = .returned (.int .i64 z) ∧ (0 ≤ z ↔ ∃ p ∈ L, 64 < p.nd.length) ∧ Below w.heap.size w w' := by
  obtain ⟨a, g, off, c, rfl, h2, h3, h4, h5⟩ := hL.ex
  have HA1 : Hid (0 < L.length → a = some ⟨g, off, none⟩) := fun h => (h3 h).1
  have HL : Hid (PacksIn w (.slice a L.length c) L) := hL
  have HA5 : Hid (∀ wx, Below w.heap.size w wx → ∀ i (h : i < L.length), ∃ na nc, wx.rangeAt g (off + i * 3) (encP L[i] (.slice na L[i].nd.length nc))) := fun wx hx i hi => by
    obtain ⟨nv, k1, k2⟩ := h5 i hi
    obtain ⟨na, _, _, nc, rfl, _⟩ := k2.ex
    exact ⟨na, nc, fun j u hj => (hx.cell (p := ⟨g, off + i * 3 + j, none⟩) (h3 (by omega)).2).trans (k1 j u hj)⟩
  obtain ⟨n, hn⟩ : ∃ n, n = L.length := ⟨_, rfl⟩
  have HN : Hid (n = L.length) := hn
  have hnn : L.length = n := hn.symm
  rw [hnn]
  rw [hnn] at h2 hl
  clear hL h3 h4 h5 hn hnn
  go_enter Tryz.func65, Tryz.ntmps65
  go_wp2
  go_loopw [8] (fun iv wr => ∃ i : Nat, i ≤ n ∧ iv = .int .i64 i ∧ Below w.heap.size w wr ∧ Hid (∀ j (h : j < L.length), j < i → ¬ 64 < L[j].nd.length)) (fun iv _ => n - (intOf iv).toNat)
  case atStart => exact ⟨0, Nat.zero_le _, rfl, Below.refl _ _, fun j _ h => absurd h (by omega)⟩
  case round =>
    obtain ⟨i, hi, rfl, hb, HI⟩ := hrel
    have HB : Hid (Below w.heap.size w wr) := hb
    clear hb
    by_cases hlt : i < n
    · have hlt' : (i : Int) < (n : Int) := by omega
      have hiA : i < L.length := by have := HN.out; omega
      obtain rfl := HA1.out (by omega)
      obtain ⟨na, nc, hrg⟩ := HA5.out wr HB.out i hiA
      obtain ⟨o, ho⟩ : ∃ o, o = L[i] := ⟨_, rfl⟩
      rw [← ho] at hrg
      have HO : Hid (o = L[i]) := ho
      obtain ⟨nl, hnl⟩ : ∃ nl, nl = o.nd.length := ⟨_, rfl⟩
      rw [← hnl] at hrg
      have HNl : Hid (nl = o.nd.length) := hnl
      have hcl := manyNeeds_ok o.nm o.vr na nl nc wr
      clear ho hnl
      by_cases he : 64 < nl
      · rw [decide_eq_true he] at hcl
        have HMem : Hid (∃ p ∈ L, 64 < p.nd.length) := ⟨o, by rw [HO.out]; exact List.getElem_mem _, by rw [← HNl.out]; exact he⟩
        clear he
        go_wp2_with (first | refine wpList_load_mid rfl 44 _ rfl g (off + i * 3) rfl _ _ hrg Tryz.underlying44 rfl infoPk ?_ | (go_at_call 42; refine hcl.mono ?_; rintro e w9 ⟨rfl, hb9⟩))
        go_ret
        exact ⟨i, rfl, ⟨fun _ => HMem.out, fun _ => by omega⟩, HB.out.trans (hb9.mono HB.out.size)⟩
      · rw [decide_eq_false he] at hcl
        have HN2 : Hid (∀ j (h : j < L.length), j < i + 1 → ¬ 64 < L[j].nd.length) := fun j hj h => by
          by_cases e : j = i
          · subst e; rw [← HO.out, ← HNl.out]; exact he
          · exact HI.out j hj (by omega)
        clear he
        go_wp2_with (first | refine wpList_load_mid rfl 44 _ rfl g (off + i * 3) rfl _ _ hrg Tryz.underlying44 rfl infoPk ?_ | (go_at_call 42; refine hcl.mono ?_; rintro e w9 ⟨rfl, hb9⟩))
        go_roundw
        case rel => exact ⟨i + 1, by omega, by go_num, HB.out.trans (hb9.mono HB.out.size), HN2.out⟩
        case measure => simp [intOf]; omega
    · have hlt' : ¬ (i : Int) < (n : Int) := by omega
      have HNot : Hid (¬ ∃ p ∈ L, 64 < p.nd.length) := fun h => by
        obtain ⟨o, h1, h2⟩ := h
        obtain ⟨j, hj, he⟩ := List.getElem_of_mem h1
        exact HI.out j hj (by have := HN.out; omega) (by rw [he]; exact h2)
      go_wp2
      go_ret
      exact ⟨-1, rfl, ⟨fun h => absurd h (by decide), fun h => absurd h HNot.out⟩, HB.out⟩
theorem containsPack_ok {L : List Pak} {pv : Value} (w : World) (hL : PacksIn w pv L) (hl : L.length ≤ 1000000000) : Calls Tryz.prog 41 #[pv, .func (.func 42) #[] #[]] w fun e w' => ∃ b : Bool, e = .returned (.bool b) ∧ (b = true ↔ ∃ p ∈ L, 64 < p.nd.length) ∧ Below w.heap.size w w' := by
  have h := indexPack_ok w hL hl
  go_enter Tryz.func41, Tryz.ntmps41
  go_wp2_with fail
  refine h.mono ?_
  rintro e w1 ⟨z, rfl, hz, hb⟩
  have HZ : Hid (0 ≤ z ↔ ∃ p ∈ L, 64 < p.nd.length) := hz
  clear h hz
  go_wp2
  go_ret
  exact ⟨decide (0 ≤ z), (by first | rfl | (congr 2)), by rw [decide_eq_true_eq]; exact HZ.out, hb⟩
/-- Too many packages, or needs. -/
theorem tooMany_ok {L : List Pak} {pv : Value} (w : World) (hL : PacksIn w pv L) (hl : L.length < 9223372036854775807) : Calls Tryz.prog 25 #[pv] w fun e w' => e = .returned (.bool (bigL L)) ∧ Below w.heap.size w w' := by
  obtain ⟨a, g, off, c, rfl, h2, _⟩ := hL.ex
  by_cases hb : 1024 < L.length
  · have hb' : (1024 : Int) < (L.length : Int) := by omega
    have HB : Hid (bigL L = true) := by show _ = _; unfold bigL; rw [decide_eq_true hb]; rfl
    rw [HB.out]
    clear hL h2
    go_enter Tryz.func25, Tryz.ntmps25
    go_wp2
    go_ret
    exact ⟨rfl, Below.refl _ _⟩
  · have hb' : ¬ (1024 : Int) < (L.length : Int) := by omega
    have hc := containsPack_ok w hL (by omega)
    have HD : Hid (bigL L = L.any fun p => decide (64 < p.nd.length)) := by show _ = _; unfold bigL; rw [decide_eq_false hb]; rfl
    clear hL h2
    go_enter Tryz.func25, Tryz.ntmps25
    go_wp2_with fail
    refine hc.mono ?_
    rintro e w1 ⟨b, rfl, hbb, hb1⟩
    have HE : Hid (bigL L = b) := by
      show _ = _
      rw [HD.out, Bool.eq_iff_iff, hbb, List.any_eq_true]
      simp
    clear hc hbb
    go_wp2
    go_ret
    exact ⟨by rw [HE.out]; rfl, hb1⟩
end Go.Proofs.YtdhmlcelofnkgaaGreatDoor
namespace Go.Proofs.YtdhmlcelofnkgaaGreatDoor
open Go.RowKit
open Go.ChangeMaps (setBlock)
section
variable {P : Program} {ops : Array Oper} {C : World → Prop} {Q : Act → Prop} {a : Act} {o : Oper} {rest : List Oper}
end
theorem pk_one (nm vr : ByteArray) (na : Option Addr) (nl nc : Nat) : (#[Value.string nm, .string vr, .slice na nl nc]).all (·.oneCell') = true := by kernel_rfl
theorem nd_one (nm rg : ByteArray) : (#[Value.string nm, .string rg]).all (·.oneCell') = true := by kernel_rfl
abbrev zeroPk : Array Value := #[.string ⟨#[]⟩, .string ⟨#[]⟩, .slice none 0 0]
abbrev zeroNd : Array Value := #[.string ⟨#[]⟩, .string ⟨#[]⟩]
theorem needs_go {A : List Ned} {n : Ned} {r : List Ned} : needsE A (n :: r) = if rightN n A ≠ 0 then rightN n A else needsE (A ++ [n]) r := rfl
theorem needs_take {L : List Ned} {W : World} {ng noff nc : Nat} (h : NeedsIn W (.slice (some ⟨ng, noff, none⟩) L.length nc) L) (j : Nat) (hj : j < L.length) : NeedsIn W (.slice (some ⟨ng, noff, none⟩) j nc) (L.take j) := by
  obtain ⟨a, g, off, c, h1, h2, h3, h4, h5⟩ := h.ex
  simp only [Value.slice.injEq] at h1
  obtain ⟨rfl, _, rfl⟩ := h1
  obtain ⟨k1, k2⟩ := h3 (by omega)
  simp only [Option.some.injEq, Addr.mk.injEq, and_true] at k1
  obtain ⟨rfl, rfl⟩ := k1
  have hl : (L.take j).length = j := by rw [List.length_take]; omega
  refine ⟨some ⟨ng, noff, none⟩, ng, noff, nc, by rw [hl], by omega, fun _ => ⟨rfl, k2⟩, (fun h => by cases h), fun i hi => ?_⟩
  rw [List.getElem_take]
  exact h5 i (by omega)
/-- What is wrong, one package on. -/
theorem packs_go {A : List Rl} {p : Pak} {r : List Pak} (h1 : rightP p.nm p.vr A = 0) (h2 : needsE [] p.nd = 0) : packsE A (p :: r) = packsE (A ++ [p.key]) r := by
  rw [packsE_cons, if_neg]
  intro h
  apply h
  unfold packE
  rw [if_neg (fun k => k h1), h2]
/-- Texts that fit. -/
def FitP (L : List Pak) : Prop := ∀ p ∈ L, p.nm.size ≤ 140737488355328 ∧ p.vr.size ≤ 140737488355328 ∧ ∀ n ∈ p.nd, n.nm.size ≤ 140737488355328 ∧ n.rg.size ≤ 140737488355328
set_option maxRecDepth 40000 in
set_option maxHeartbeats 16000000 in
theorem right_ok {L : List Pak} {pv : Value} (w : World) (hL : PacksIn w pv L) (hF : FitP L) (hl : L.length < 9223372036854775807) : Calls Tryz.prog 12 #[pv] w fun e w' => e = .returned (.int .i64 (rightL L)) ∧ Below w.heap.size w w' := by
  have htm := tooMany_ok w hL hl
  obtain ⟨R, hR⟩ : ∃ R, R = rightL L := ⟨_, rfl⟩
  have HRD : Hid (R = if bigL L = true then 3 else packsE [] L) := hR
  rw [← hR]
  have HL : Hid (PacksIn w pv L) := hL
  have HF : Hid (FitP L) := hF
  obtain ⟨a, g, off, c, rfl, h2, h3, h4, h5⟩ := hL.ex
  have HA1 : Hid (0 < L.length → a = some ⟨g, off, none⟩) := fun h => (h3 h).1
  have HAg : Hid (0 < L.length → g < w.heap.size) := fun h => (h3 h).2
  have HA5 : Hid (∀ i (h : i < L.length), ∃ na nc, (∀ wx, Below w.heap.size w wx → wx.rangeAt g (off + i * 3) (encP L[i] (.slice na L[i].nd.length nc))) ∧ ∀ wx, Below w.heap.size w wx → NeedsIn wx (.slice na L[i].nd.length nc) L[i].nd) := fun i hi => by
    obtain ⟨nv, k1, k2⟩ := h5 i hi
    have k2' := k2
    obtain ⟨na, _, _, nc, rfl, _⟩ := k2.ex
    exact ⟨na, nc, fun wx hx j u hj => (hx.cell (p := ⟨g, off + i * 3 + j, none⟩) (h3 (by omega)).2).trans (k1 j u hj), fun wx hx => k2'.keep (Nat.le_refl _) hx⟩
  obtain ⟨n, hn⟩ : ∃ n, n = L.length := ⟨_, rfl⟩
  have HN : Hid (n = L.length) := hn
  have hnn : L.length = n := hn.symm
  rw [hnn]
  rw [hnn] at h2 hl htm
  have HBigD : Hid (bigL L = false → n ≤ 1024 ∧ ∀ p ∈ L, p.nd.length ≤ 64) := fun h => by
    have h1 := (bigL_iff L).1 h
    exact ⟨by rw [hn]; exact h1.1, h1.2⟩
  clear hL h3 h4 h5 hn hnn hR hF
  cases hbig : bigL L with
  | true =>
    have HF3 : Hid (R = 3) := by show _ = _; rw [HRD.out, if_pos hbig]
    rw [hbig] at htm
    clear hbig
    go_enter Tryz.func12, Tryz.ntmps12
    go_wp2_with fail
    refine htm.mono ?_
    rintro e w1 ⟨rfl, hb1⟩
    clear htm
    go_wp2
    go_ret
    exact ⟨by rw [HF3.out]; rfl, hb1⟩
  | false =>
    have HRP : Hid (R = packsE [] L) := by show _ = _; rw [HRD.out, if_neg (by rw [hbig]; decide)]
    obtain ⟨hn1024, hnd⟩ := HBigD.out hbig
    have HND : Hid (∀ p ∈ L, p.nd.length ≤ 64) := hnd
    rw [hbig] at htm
    clear hbig hnd
    go_enter Tryz.func12, Tryz.ntmps12
    go_wp2_with fail
    refine htm.mono ?_
    rintro e w1 ⟨rfl, hb1⟩
    have HB1 : Hid (Below w.heap.size w w1) := hb1
    have HRel0 : Hid (RelAt (w1.alloc (.map #[] 0)) w1.heap.size []) := rel_new w1
    have HB2 : Hid (Below w1.heap.size w1 (w1.alloc (.map #[] 0))) := (Below.refl _ _).alloc (Nat.le_refl _) _
    obtain ⟨m, hm⟩ : ∃ m, m = w1.heap.size := ⟨_, rfl⟩
    have HM : Hid (m = w1.heap.size) := hm
    have hmm := run_makeMap_plain (P := Tryz.prog) w1 60
    rw [← HM.out] at hmm HRel0 HB2
    clear htm hb1 hm
    go_wp2
    clear hmm
    go_loopw [15] (fun iv wr => ∃ i : Nat, i ≤ n ∧ iv = .int .i64 i ∧ Below m w1 wr ∧ RelAt wr m ((L.take i).map Pak.key) ∧ Hid (R = packsE ((L.take i).map Pak.key) (L.drop i))) (fun iv _ => n - (intOf iv).toNat)
    case atStart => exact ⟨0, Nat.zero_le _, rfl, HB2.out, HRel0.out, by rw [List.drop_zero]; exact HRP.out⟩
    case round =>
      obtain ⟨i, hi, rfl, hb, hrl, HI⟩ := hrel
      have HB : Hid (Below m w1 wr) := hb
      have HRl : Hid (RelAt wr m ((L.take i).map Pak.key)) := hrl
      have HMS : Hid (m ≤ wr.heap.size) := by show _ ≤ _; rw [HM.out]; exact hb.size
      have HBw : Hid (Below w.heap.size w wr) := HB1.out.trans (hb.mono (by rw [HM.out]; exact HB1.out.size))
      clear hb hrl HRel0 HB2
      by_cases hlt : i < n
      · have hlt' : (i : Int) < (n : Int) := by omega
        have hiL : i < L.length := by have := HN.out; omega
        obtain rfl := HA1.out (by omega)
        obtain ⟨na, nc, hrg0, hno⟩ := HA5.out i hiL
        have hrg := hrg0 wr HBw.out
        have hnin := hno wr HBw.out
        obtain ⟨p, hp⟩ : ∃ p, p = L[i] := ⟨_, rfl⟩
        rw [← hp] at hrg hnin hno
        have hpL : p ∈ L := by rw [hp]; exact List.getElem_mem _
        obtain ⟨hf1, hf2, hf3⟩ := HF.out p hpL
        have HF3 : Hid (∀ n ∈ p.nd, n.nm.size ≤ 140737488355328 ∧ n.rg.size ≤ 140737488355328) := hf3
        have hnd64 := HND.out p hpL
        have HDr : Hid (L.drop i = p :: L.drop (i + 1)) := by show _ = _; rw [List.drop_eq_getElem_cons hiL, hp]
        have HTk : Hid ((L.take (i + 1)).map Pak.key = (L.take i).map Pak.key ++ [p.key]) := by show _ = _; rw [List.take_succ_eq_append_getElem hiL, List.map_append, hp]; rfl
        obtain ⟨E, hE⟩ : ∃ E, E = (L.take i).map Pak.key := ⟨_, rfl⟩
        rw [← hE] at HRl HI HTk
        obtain ⟨nl, hnl⟩ : ∃ nl, nl = p.nd.length := ⟨_, rfl⟩
        rw [← hnl] at hrg hnin hnd64 hno
        have HNo : Hid (∀ wx, Below w.heap.size w wx → NeedsIn wx (.slice na nl nc) p.nd) := hno
        have HNl : Hid (nl = p.nd.length) := hnl
        have HNin : Hid (NeedsIn wr (.slice na nl nc) p.nd) := hnin
        have hb3 : Below wr.heap.size wr (wr.alloc (.cells #[.string p.nm, .string p.vr, .slice na nl nc] 44)) := (Below.refl _ _).alloc (Nat.le_refl _) _
        have hr3 : Row (wr.alloc (.cells #[.string p.nm, .string p.vr, .slice na nl nc] 44)) wr.heap.size #[.string p.nm, .string p.vr, .slice na nl nc] 44 := Row.new _ _ _
        obtain ⟨w3, hw3⟩ : ∃ x, x = wr.alloc (.cells #[.string p.nm, .string p.vr, .slice na nl nc] 44) := ⟨_, rfl⟩
        rw [← hw3] at hb3 hr3
        have hw3' := hw3.symm
        obtain ⟨k5, hk5⟩ : ∃ k, k = wr.heap.size := ⟨_, rfl⟩
        have hk5' := hk5.symm
        rw [← hk5] at hr3
        have HB3 : Hid (Below wr.heap.size wr w3) := hb3
        have HR3 : Hid (Row w3 k5 #[.string p.nm, .string p.vr, .slice na nl nc] 44) := hr3
        have hrp := rightPack_ok p.nm p.vr na nl nc hf1 hf2 w3 (HRl.out.next HB3.out)
        obtain ⟨e1, he1⟩ : ∃ e, e = rightP p.nm p.vr E := ⟨_, rfl⟩
        rw [← he1] at hrp
        have HE1 : Hid (e1 = rightP p.nm p.vr E) := he1
        have HMlt : Hid (m < wr.heap.size) := HRl.out.lt
        clear hp hE hnl hw3 hk5 hf1 hf2 hf3 hb3 he1 hnin hpL hno hrg0
        go_wp2_with (first | refine wpList_load_mid rfl 44 _ rfl g (off + i * 3) rfl _ _ hrg Tryz.underlying44 rfl infoPk ?_ | (refine wpList_store_new rfl 44 _ _ rfl wr zeroPk #[.string p.nm, .string p.vr, .slice na nl nc] 44 rfl wr.heap.size rfl rfl rfl infoPk rfl (pk_one _ _ _ _ _) ?_; rw [hw3']; rw [hk5']) | refine wpList_load_row rfl 44 _ rfl k5 rfl 44 #[.string p.nm, .string p.vr, .slice na nl nc] (0, 0) _ hr3 Tryz.underlying44 rfl infoPk ?_ | fail)
        refine hrp.mono ?_
        rintro e w4 ⟨rfl, hb4⟩
        have HB4 : Hid (Below wr.heap.size wr w4) := HB3.out.trans (hb4.mono HB3.out.size)
        have HR4 : Hid (Row w4 k5 #[.string p.nm, .string p.vr, .slice na nl nc] 44) := HR3.out.below hb4 HR3.out.lt
        clear hrp hb4 hr3 hrg hw3' HB3 HR3
        by_cases he0 : e1 = 0
        · have HE0 : Hid (rightP p.nm p.vr E = 0) := by show _ = _; rw [← HE1.out]; exact he0
          subst he0
          have hnin2 : (p.nm, p.vr) ∉ E := (rightP_ok HE0.out).2.2
          obtain ⟨o, hput, hrel5⟩ := put_rel (HRl.out.next HB4.out) hnin2 (i : Int)
          have d0 : w4.cell? ⟨k5, 0, none⟩ = some (.string p.nm) := (HR4.out.cell 0).trans rfl
          have d1 : w4.cell? ⟨k5, 1, none⟩ = some (.string p.vr) := (HR4.out.cell 1).trans rfl
          have hk5m : m < k5 := by rw [← hk5']; exact HMlt.out
          have hr5 : Row (setBlock w4 m o) k5 #[.string p.nm, .string p.vr, .slice na nl nc] 44 := (setBlock_other (by omega)).trans HR4.out
          have hb5 : Below m w1 (setBlock w4 m o) := (HB.out.trans (HB4.out.mono HMS.out)).trans (below_setBlock o (Nat.le_refl _))
          have hnin5 : NeedsIn (setBlock w4 m o) (.slice na nl nc) p.nd := by
            have hx : Below w.heap.size w (setBlock w4 m o) := HB1.out.trans (hb5.mono (by rw [HM.out]; exact HB1.out.size))
            exact HNo.out _ hx
          obtain ⟨w5, hw5⟩ : ∃ x, x = setBlock w4 m o := ⟨_, rfl⟩
          rw [← hw5] at hput hrel5 hr5 hb5 hnin5
          have HR5 : Hid (Row w5 k5 #[.string p.nm, .string p.vr, .slice na nl nc] 44) := hr5
          have HB5 : Hid (Below m w1 w5) := hb5
          have HM5 : Hid (m ≤ w5.heap.size) := by show _ ≤ _; rw [HM.out]; exact hb5.size
          have HRel5 : Hid (RelAt w5 m (E ++ [p.key])) := hrel5
          have HNin5 : Hid (NeedsIn w5 (.slice na nl nc) p.nd) := hnin5
          have d2 : w5.cell? ⟨k5, 2, none⟩ = some (.slice na nl nc) := (hr5.cell 2).trans rfl
          have HNs : Hid (R = if needsE [] p.nd ≠ 0 then needsE [] p.nd else packsE (E ++ [p.key]) (L.drop (i + 1))) := by
            show _ = _
            rw [HI.out, HDr.out, packsE_cons]
            unfold packE
            rw [HE0.out]
            simp
          clear hw5 hr5 hb5 hnin5 hrel5 hnin2
          go_wp2
          clear hput d0 d1
          go_loopw [36] (fun jv wi => ∃ j : Nat, j ≤ nl ∧ jv = .int .i64 j ∧ Below w5.heap.size w5 wi ∧ Hid (needsE [] p.nd = needsE (p.nd.take j) (p.nd.drop j))) (fun jv _ => nl - (intOf jv).toNat)
          case atStart => exact ⟨0, Nat.zero_le _, rfl, Below.refl _ _, by rw [List.drop_zero]; rfl⟩
          case round =>
            obtain ⟨j, hj, rfl, hbi, HJ⟩ := hrel
            have HBi : Hid (Below w5.heap.size w5 wr) := hbi
            clear hbi
            by_cases hjl : j < nl
            · have hjl' : (j : Int) < (nl : Int) := by omega
              have hjd : j < p.nd.length := by have := HNl.out; omega
              have hninr := HNin5.out.keep (Nat.le_refl _) HBi.out
              obtain ⟨na', ng, noff, nc', hne, hncl, hn3, _, hn5⟩ := hninr.ex
              simp only [Value.slice.injEq] at hne
              obtain ⟨rfl, -, rfl⟩ := hne
              obtain ⟨rfl, hng⟩ := hn3 (by omega)
              have hrg := hn5 j hjd
              obtain ⟨nd, hndq⟩ : ∃ nd, nd = p.nd[j] := ⟨_, rfl⟩
              rw [← hndq] at hrg
              obtain ⟨hf1, hf2⟩ := HF3.out nd (by rw [hndq]; exact List.getElem_mem _)
              have HDj : Hid (p.nd.drop j = nd :: p.nd.drop (j + 1)) := by show _ = _; rw [List.drop_eq_getElem_cons hjd, hndq]
              have HTj : Hid (p.nd.take (j + 1) = p.nd.take j ++ [nd]) := by show _ = _; rw [List.take_succ_eq_append_getElem hjd, hndq]
              have hb7 : Below wr.heap.size wr (wr.alloc (.cells #[.string nd.nm, .string nd.rg] 46)) := (Below.refl _ _).alloc (Nat.le_refl _) _
              have hr7 : Row (wr.alloc (.cells #[.string nd.nm, .string nd.rg] 46)) wr.heap.size #[.string nd.nm, .string nd.rg] 46 := Row.new _ _ _
              obtain ⟨w7, hw7⟩ : ∃ x, x = wr.alloc (.cells #[.string nd.nm, .string nd.rg] 46) := ⟨_, rfl⟩
              rw [← hw7] at hb7 hr7
              have hw7' := hw7.symm
              obtain ⟨k8, hk8⟩ : ∃ k, k = wr.heap.size := ⟨_, rfl⟩
              have hk8' := hk8.symm
              rw [← hk8] at hr7
              have HR8 : Hid (Row w7 k8 #[.string nd.nm, .string nd.rg] 46) := hr7
              have HB7 : Hid (Below w5.heap.size w5 w7) := HBi.out.trans (hb7.mono HBi.out.size)
              have HR5w : Hid (Row w7 k5 #[.string p.nm, .string p.vr, .slice (some ⟨ng, noff, none⟩) nl nc] 44) := HR5.out.below HB7.out HR5.out.lt
              obtain ⟨e0, he0⟩ : ∃ e, e = rightN nd (p.nd.take j) := ⟨_, rfl⟩
              have HE0n : Hid (e0 = rightN nd (p.nd.take j)) := he0
              have HNeed : Hid (∀ wx, Below w7.heap.size w7 wx → Calls Tryz.prog 27 #[.agg #[.string nd.nm, .string nd.rg], .slice (some ⟨ng, noff, none⟩) j nc] wx fun e w' => e = .returned (.int .i64 e0) ∧ Below wx.heap.size wx w') := fun wx hx => by
                have h1 := HNin5.out.keep (Nat.le_refl _) (HB7.out.trans (hx.mono HB7.out.size))
                rw [HNl.out] at h1
                have h2 := needs_take h1 j hjd
                have h3 := rightNeed_ok nd.nm nd.rg hf1 hf2 wx h2 (by rw [List.length_take]; omega)
                rw [he0]
                exact h3
              have HR5o := HR5
              have HR5 := HR5w
              have hjc : (j : Int) ≤ (nc : Int) := by omega
              clear hndq hb7 hr7 hw7 hk8 he0 hninr hn3 hn5 hng
              go_wp2_with (first | refine wpList_load_mid rfl 46 _ rfl ng (noff + j * 2) rfl _ _ hrg Tryz.underlying46 rfl infoNd ?_ | (refine wpList_store_new rfl 46 _ _ rfl wr zeroNd #[.string nd.nm, .string nd.rg] 46 rfl wr.heap.size rfl rfl rfl infoNd rfl (nd_one _ _) ?_; rw [hw7']; rw [hk8']))
              refine wp_region_quiet (C := fun wx => Below w7.heap.size w7 wx) (by kernel_rfl) (by kernel_rfl) ((Below.refl _ _).drew) ?_
              simp only []
              refine q_load 46 _ rfl (by rfl) k8 #[.string nd.nm, .string nd.rg] 46 _ rfl (fun wx hw => Row.below HR8.out hw (Row.lt HR8.out)) Tryz.underlying46 rfl infoNd ?_
              simp only [Act.put, List.setIfInBounds_toArray, List.set_cons_zero, List.set_cons_succ]
              refine q_value ?_ (by rfl) (fun wx hw => ?_) ?_
              rotate_left
              · go_simp
                with_reducible rfl
              simp only [Act.put, List.setIfInBounds_toArray, List.set_cons_zero, List.set_cons_succ]
              refine q_value (.slice (some ⟨ng, noff, none⟩) nl nc) (by rfl) (fun wx hw => ?_) ?_
              · have hc := ((Row.below HR5.out hw (Row.lt HR5.out)).cell 2).trans (show _ = some (Value.slice (some ⟨ng, noff, none⟩) nl nc) from rfl)
                go_simp
              simp only [Act.put, List.setIfInBounds_toArray, List.set_cons_zero, List.set_cons_succ]
              refine q_value ?_ (by rfl) (fun wx hw => ?_) ?_
              rotate_left
              · go_simp
                with_reducible rfl
              simp only [Act.put, List.setIfInBounds_toArray, List.set_cons_zero, List.set_cons_succ]
              refine q_value (.slice (some ⟨ng, noff, none⟩) j nc) (by rfl) (fun wx hw => ?_) ?_
              · go_simp
              simp only [Act.put, List.setIfInBounds_toArray, List.set_cons_zero, List.set_cons_succ]
              refine q_call (.int .i64 e0) (by rfl) 27 #[.agg #[.string nd.nm, .string nd.rg], .slice (some ⟨ng, noff, none⟩) j nc] (fun w h => by go_simp) (fun wx hw => (HNeed.out wx hw).mono fun e w' ⟨he, hb⟩ => ⟨he, hw.trans (hb.mono hw.size)⟩) ?_
              simp only [Act.put, List.setIfInBounds_toArray, List.set_cons_zero, List.set_cons_succ]
              refine q_value ?_ (by rfl) (fun wx hw => ?_) ?_
              rotate_left
              · go_simp
                with_reducible rfl
              simp only [Act.put, List.setIfInBounds_toArray, List.set_cons_zero, List.set_cons_succ]
              refine wpQuiet_nil ?_
              intro wB hB
              try simp only [Exit.then]
              have HBB : Hid (Below w5.heap.size w5 wB) := HB7.out.trans (hB.mono HB7.out.size)
              clear hB hrg
              by_cases hz : e0 = 0
              · have HZ : Hid (needsE [] p.nd = needsE (p.nd.take (j + 1)) (p.nd.drop (j + 1))) := by
                  show _ = _
                  rw [HJ.out, HDj.out, needs_go, ← HE0n.out, if_neg (fun k => k hz), HTj.out]
                subst hz
                go_wp2
                go_roundw
                case rel => exact ⟨j + 1, by omega, by go_num, HBB.out, HZ.out⟩
                case measure => simp [intOf]; omega
              · have hzb := beqI hz
                have HRe : Hid (R = e0) := by
                  have h1 : needsE [] p.nd = e0 := by rw [HJ.out, HDj.out, needs_go, ← HE0n.out, if_pos hz]
                  show _ = _
                  rw [HNs.out, h1, if_pos hz]
                have HBf : Hid (Below w.heap.size w wB) := HB1.out.trans ((HB5.out.trans (HBB.out.mono HM5.out)).mono (by rw [HM.out]; exact HB1.out.size))
                go_wp2
                go_ret
                exact ⟨by rw [HRe.out]; rfl, HBf.out⟩
            · have hjl' : ¬ (j : Int) < (nl : Int) := by omega
              have HNz : Hid (needsE [] p.nd = 0) := by
                show _ = _
                rw [HJ.out, List.drop_of_length_le (by have := HNl.out; omega)]
                rfl
              have HNext : Hid (R = packsE ((L.take (i + 1)).map Pak.key) (L.drop (i + 1))) := by
                show _ = _
                rw [HNs.out, HNz.out, if_neg (fun h => h rfl), HTk.out]
              have HRelN : Hid (RelAt wr m ((L.take (i + 1)).map Pak.key)) := by rw [HTk.out]; exact HRel5.out.next HBi.out
              have HBN : Hid (Below m w1 wr) := HB5.out.trans (HBi.out.mono HM5.out)
              go_wp2
              go_roundw
              case rel => exact ⟨i + 1, by omega, by go_num, HBN.out, HRelN.out, HNext.out⟩
              case measure => simp [intOf]; omega
        · have hzb := beqI he0
          have HRe : Hid (R = e1) := by
            show _ = _
            rw [HI.out, HDr.out, packsE_cons]
            unfold packE
            rw [← HE1.out, if_pos he0, if_pos he0]
          have HBf : Hid (Below w.heap.size w w4) := HBw.out.trans (HB4.out.mono HBw.out.size)
          go_wp2
          go_ret
          exact ⟨by rw [HRe.out]; rfl, HBf.out⟩
      · have hlt' : ¬ (i : Int) < (n : Int) := by omega
        have HR0 : Hid (R = 0) := by
          show _ = _
          rw [HI.out, List.drop_of_length_le (by have := HN.out; omega)]
          rfl
        go_wp2
        go_ret
        exact ⟨by rw [HR0.out]; rfl, HBw.out⟩
end Go.Proofs.YtdhmlcelofnkgaaGreatDoor
