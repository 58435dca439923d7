/- The walk of the law DigestSums over the contracts of the program's calls and of the document's answers. -/
import Derived.Test.YtihemceilmcekaaDoorRefSum
import Derived.Test.YtihemceilmcekaaDoorRefParse
namespace Go.Proofs.YtihemceilmcekaaDoor
open Go.RowKit Num Math

theorem Bs.conv {w : World} {a : Option Addr} {b off len : Nat} {f : Nat → Int} (h : Bs w a b off len f) (cap : Nat) : (convert 22 9 (.slice a len cap)).run Tryd.prog w = .ok (.string (strOfNums ((List.range len).map f))) w := by
  by_cases h0 : len = 0
  · subst h0
    cases a with
    | none => exact run_convert_bytes_nil (P := Tryd.prog) w 22 5 Tryd.underlying22 Tryd.underlying5 0 cap 9 Tryd.underlying9
    | some x =>
      rw [run_convert_bytes_string w 22 9 5 _ 0 cap Tryd.underlying22 Tryd.underlying5 Tryd.underlying9]
      exact run_bytesToString w x 0 cap [] (run_loadCells_list (P := Tryd.prog) w x [] (fun j v hj => by simp at hj))
  · obtain rfl := h.at' (by omega)
    refine run_convert_bytes_arg (P := Tryd.prog) w 22 5 Tryd.underlying22 Tryd.underlying5 b off len cap ((List.range len).map f) (by simp) (fun i hi => ?_) 9 Tryd.underlying9
    rw [h.cell i hi]; simp [List.getD, hi]

/-- What holds all through the last statement. -/
structure Ks (w0 : World) (n1 n2 : Nat) (D : Array Value) (B : Nat) (v : Value) (n : Nat) (xs : List Value) (w' : World) : Prop where
  a : Row w' n1 D 24
  b : Row w' n2 D 23
  i : w'.ownsRow B 5 1 v n xs
  old : Below w0.heap.size w0 w'
theorem Ks.next {w0 w1 w2 : World} {n1 n2 B n : Nat} {D : Array Value} {v : Value} {xs : List Value} (h : Ks w0 n1 n2 D B v n xs w1) (hb : Below w1.heap.size w1 w2) : Ks w0 n1 n2 D B v n xs w2 :=
  ⟨h.a.below hb h.a.lt, h.b.below hb h.b.lt, ownsRow_below h.i hb, h.old.trans (hb.mono h.old.size)⟩

set_option maxHeartbeats 1000000 in
theorem law_sums (a : Option Addr) (b off len cap : Nat) (f d : Nat → Int) (T U : ByteArray) (w : World) (hl : len ≤ 140737488351232) (hB : Bs w a b off len f) (hnone : a = none → len = 0 ∧ cap = 0)
    (HS : ∀ wr g cap', Below w.heap.size w wr → len ≤ cap' → cap' ≤ 9223372036854775807 → (∀ i, i < len → wr.cell? ⟨g, i, none⟩ = some (.int .u8 (f i))) → Calls Tryd.prog 8 #[.slice (some ⟨g, 0, none⟩) len cap'] wr fun e w' => e = .returned (.agg (arr d 32)) ∧ Below wr.heap.size wr w')
    (HRS : ∀ wr, Below w.heap.size w wr → Calls Tryd.prog 9 #[.slice a len cap] wr fun e w' => e = .returned (.agg (arr d 32)) ∧ Below wr.heap.size wr w')
    (HT : ∀ wr, Below w.heap.size w wr → Calls Tryd.prog 10 #[.agg (arr d 32)] wr fun e w' => e = .returned (.string T) ∧ Below wr.heap.size wr w')
    (HRT : ∀ wr g, Row wr g (arr d 32) 23 → Calls Tryd.prog 11 #[.slice (some ⟨g, 0, none⟩) 32 32] wr fun e w' => e = .returned (.string T) ∧ Below wr.heap.size wr w')
    (HH : ∀ wr, Below w.heap.size w wr → Calls Tryd.prog 12 #[.agg (arr d 32)] wr fun e w' => e = .returned (.string U) ∧ Below wr.heap.size wr w')
    (HRH : ∀ wr, Below w.heap.size w wr → Calls Tryd.prog 13 #[.agg (arr d 32)] wr fun e w' => e = .returned (.string U) ∧ Below wr.heap.size wr w') :
    Calls Tryd.prog 3 #[.slice a len cap] w fun e w' => e = .returned (.bool true) ∧ Below w.heap.size w w' := by
  obtain ⟨i0, hi0, hz0, hz1, hz2⟩ := info_parts Tryd.info5
  have e1 : ∀ w : World, (Op.equalIn 10000 24 (.agg (arr d 32)) (.agg (arr d 32))).run Tryd.prog w = .ok true w := fun w => by rw [eq_arr d d 24 Tryd.underlying24 w, same_refl]
  have o1 := arr_one d 32
  have s1 := arr_size d 32
  generalize arr d 32 = D at *
  have HS' : Hid _ := HS
  have HRS' : Hid _ := HRS
  have HT' : Hid _ := HT
  have HRT' : Hid _ := HRT
  have HH' : Hid _ := HH
  have HRH' : Hid _ := HRH
  have O1 : Hid _ := o1
  have HB : Hid _ := hB
  have HN : Hid _ := hnone
  clear HS HRS HT HRT HH HRH o1 hB hnone
  have i23 : (Tryd.prog.info? 23).map (·.size) = some D.size := by rw [s1]; exact info23
  have i24 : (Tryd.prog.info? 24).map (·.size) = some D.size := by rw [s1]; exact info24
  obtain ⟨Z, hZ⟩ : ∃ Z, Z = zeros32 := ⟨_, rfl⟩
  have hZs : Z.size = 32 := by rw [hZ]; rfl
  unfold zeros32 at hZ
  have HZ : Hid _ := hZ
  clear hZ
  go_enter Tryd.func3, Tryd.ntmps3
  go_wp2_with (at_builtin; refine wpList_append_bytes rfl (.tmp 6) (.tmp 7) rfl w.heap.size _ 0 [] rfl (World.ownsRow_lit w #[] 0 (Nat.le_refl _) (by decide) rfl) a b off len cap f rfl (HB.out.below ((Below.refl _ _).alloc (Nat.le_refl _) _)) HN.out (by omega) (by simp) ?_)
  intro v1 w1 own1 grow1
  have hb1 : Below w.heap.size w w1 := own_grown (World.ownsRow_lit w #[] 0 (Nat.le_refl _) (by decide) rfl) ((Below.refl _ _).alloc (Nat.le_refl _) _) grow1
  have hsz1 := hb1.size
  clear grow1
  go_wp2_with (at_builtin; refine wpList_append_own_wide _ rfl (.tmp 8) (.tmp 9) 22 rfl w.heap.size 5 i0 (.int .u8 0) 1 1 Tryd.underlying22 hi0 hz0 hz1 hz2 rfl (by decide) _ _ _ rfl (own1.alloc _) ⟨w1.heap.size, 0, none⟩ 1 1 [.int .u8 90] rfl rfl ?c1 ?c2 ?c3 ?c4 ?c5 ?_)
  case c1 => exact cell_one_new _ _ _
  case c2 => intro u hu; simp at hu; subst hu; rfl
  case c3 => unfold maxLen; omega
  case c4 => omega
  case c5 => simp; omega
  intro v2 w2 own2 grow2 _
  have hb2 : Below w.heap.size w w2 := own_grown (own1.alloc _) (hb1.alloc hsz1 _) grow2
  clear grow2 own1 hb1 hsz1
  have own3 : w2.ownsRow w.heap.size 5 1 v2 (len + 1) ((((List.range len).map f) ++ [90]).map (Value.int .u8)) := by
    simpa [arr, Function.comp_def] using own2
  clear own2
  obtain ⟨_, ⟨_, hq0⟩ | ⟨g, capg, cur, hv, hle, hg⟩⟩ := id own3
  · exact absurd hq0 (by omega)
  have hlec : len ≤ capg := by have := hg.2.1; omega
  have hcapg : capg ≤ 9223372036854775807 := by have := hg.2.2.1; unfold maxLen at this; omega
  subst hv
  clear hg
  have hcl : ∀ i, i < len → w2.cell? ⟨g, i, none⟩ = some (.int .u8 (f i)) := fun i hi => by
    rw [own3.cellAt i (by omega)]
    simp [List.getElem?_append_left, hi]
  have HIN := HS'.out w2 g capg hb2 hlec hcapg hcl
  clear hcl HS'
  go_wp2_with fail
  refine HIN.mono ?_
  rintro e w3 ⟨rfl, hb3⟩
  have hb3' := hb2.trans (hb3.mono hb2.size)
  have own4 := ownsRow_below own3 hb3
  clear HIN own3 hb2 hb3
  go_wp2_with (refine wpList_store_row rfl 24 _ _ rfl w3.heap.size D rfl rfl 24 Z (by rw [← HZ.out]; exact Row.new w3 Z 24) i24 (hZs.trans s1.symm) O1.out ?_)
  rw [← HZ.out, World.setRow_alloc_new]
  have hb4 : Below w.heap.size w (w3.alloc (.cells D 24)) := hb3'.alloc hb3'.size _
  have r1 : Row (w3.alloc (.cells D 24)) w3.heap.size D 24 := Row.new w3 D 24
  have own5 := ownsRow_below own4 ((Below.refl w3.heap.size w3).alloc (Nat.le_refl _) (.cells D 24))
  refine (HRS'.out _ hb4).mono ?_
  rintro e w5 ⟨rfl, hb5⟩
  have hb5' := hb4.trans (hb5.mono hb4.size)
  have q1 := r1.below hb5 r1.lt
  have own6 := ownsRow_below own5 hb5
  clear r1 own5 own4 hb3' hb4 hb5 HRS'
  go_wp2_with (refine wpList_store_row rfl 23 _ _ rfl w5.heap.size D rfl rfl 23 Z (by rw [← HZ.out]; exact Row.new w5 Z 23) i23 (hZs.trans s1.symm) O1.out ?_)
  rw [← HZ.out, World.setRow_alloc_new]
  have hW : Ks w w3.heap.size w5.heap.size D w.heap.size (.slice (some ⟨g, 0, none⟩) (len + 1) capg) (len + 1) ((((List.range len).map f) ++ [90]).map (Value.int .u8)) (w5.alloc (.cells D 23)) :=
    ⟨q1.alloc _, Row.new w5 D 23, ownsRow_below own6 ((Below.refl w5.heap.size w5).alloc (Nat.le_refl _) _), hb5'.alloc hb5'.size _⟩
  clear q1 own6 hb5' HZ hZs O1
  generalize w5.alloc (.cells D 23) = W at *
  generalize w3.heap.size = n1 at *
  generalize w5.heap.size = n2 at *
  have hin : ((strOfNums (((List.range len).map f) ++ [90])).toList == (strOfNums ((List.range len).map f) ++ { data := #[90] }).toList) = true := by
    rw [beq_iff_eq, strOfNums_toList, ByteArray.toList_eq]
    simp [strOfNums]
  have hAs : (strOfNums ((List.range len).map f)).size ≤ 140737488351232 := by rw [strOfNums_size]; simpa using hl
  have hsum : ¬ 9223372036854775807 < (strOfNums ((List.range len).map f)).size + 1 := by omega
  have HCI : Hid (∀ wx, Ks w n1 n2 D w.heap.size (.slice (some ⟨g, 0, none⟩) (len + 1) capg) (len + 1) ((((List.range len).map f) ++ [90]).map (Value.int .u8)) wx → (convert 22 9 (.slice (some ⟨g, 0, none⟩) (len + 1) capg)).run Tryd.prog wx = .ok (.string (strOfNums (((List.range len).map f) ++ [90]))) wx) :=
    fun wx hx => conv_own wx _ _ _ _ hx.i
  have HCB : Hid (∀ wx, Ks w n1 n2 D w.heap.size (.slice (some ⟨g, 0, none⟩) (len + 1) capg) (len + 1) ((((List.range len).map f) ++ [90]).map (Value.int .u8)) wx → (convert 22 9 (.slice a len cap)).run Tryd.prog wx = .ok (.string (strOfNums ((List.range len).map f))) wx) :=
    fun wx hx => (HB.out.below hx.old).conv cap
  generalize (((List.range len).map f) ++ [90]).map (Value.int .u8) = XS at *
  generalize strOfNums (((List.range len).map f) ++ [90]) = IN at *
  generalize strOfNums ((List.range len).map f) = A at *
  clear HB HN hi0 hz0 hz1 hz2 hAs hlec hcapg
  refine wp_region_quiet (C := Ks w n1 n2 D w.heap.size (.slice (some ⟨g, 0, none⟩) (len + 1) capg) (len + 1) XS) (by kernel_rfl) (by kernel_rfl) (hW.next (Below.refl _ _).drew) ?_
  simp only []
  refine q_load 24 _ rfl (by rfl) n1 D 24 _ rfl (fun w h => h.a) Tryd.underlying24 rfl i24 ?_
  simp only [Act.put, List.setIfInBounds_toArray, List.set_cons_zero, List.set_cons_succ]
  refine q_load 23 _ rfl (by rfl) n2 D 23 _ rfl (fun w h => h.b) Tryd.underlying23 rfl i23 ?_
  simp only [Act.put, List.setIfInBounds_toArray, List.set_cons_zero, List.set_cons_succ]
  refine q_value ?_ (by rfl) (fun w hw => ?_) ?_
  rotate_left
  · go_simp
    with_reducible rfl
  simp only [Act.put, List.setIfInBounds_toArray, List.set_cons_zero, List.set_cons_succ]
  refine q_move _ rfl (by rfl) ?_
  simp only [Act.put, List.setIfInBounds_toArray, List.set_cons_zero, List.set_cons_succ]
  refine q_move _ rfl (by rfl) ?_
  simp only [Act.put, List.setIfInBounds_toArray, List.set_cons_zero, List.set_cons_succ]
  refine q_value ?_ (by rfl) (fun w hw => ?_) ?_
  rotate_left
  · have hcv := HCI.out w hw
    go_simp
    with_reducible rfl
  simp only [Act.put, List.setIfInBounds_toArray, List.set_cons_zero, List.set_cons_succ]
  refine q_move _ rfl (by rfl) ?_
  simp only [Act.put, List.setIfInBounds_toArray, List.set_cons_zero, List.set_cons_succ]
  refine q_value ?_ (by rfl) (fun w hw => ?_) ?_
  rotate_left
  · have hcv := HCB.out w hw
    go_simp
    with_reducible rfl
  simp only [Act.put, List.setIfInBounds_toArray, List.set_cons_zero, List.set_cons_succ]
  refine q_value ?_ (by rfl) (fun w hw => ?_) ?_
  rotate_left
  · go_simp
    with_reducible rfl
  simp only [Act.put, List.setIfInBounds_toArray, List.set_cons_zero, List.set_cons_succ]
  refine q_value ?_ (by rfl) (fun w hw => ?_) ?_
  rotate_left
  · go_simp
    with_reducible rfl
  simp only [Act.put, List.setIfInBounds_toArray, List.set_cons_zero, List.set_cons_succ]
  refine q_value ?_ (by rfl) (fun w hw => ?_) ?_
  rotate_left
  · go_simp
    with_reducible rfl
  simp only [Act.put, List.setIfInBounds_toArray, List.set_cons_zero, List.set_cons_succ]
  refine q_move _ rfl (by rfl) ?_
  simp only [Act.put, List.setIfInBounds_toArray, List.set_cons_zero, List.set_cons_succ]
  refine q_load 24 _ rfl (by rfl) n1 D 24 _ rfl (fun w h => h.a) Tryd.underlying24 rfl i24 ?_
  simp only [Act.put, List.setIfInBounds_toArray, List.set_cons_zero, List.set_cons_succ]
  refine q_call (.string T) (by rfl) 10 #[.agg D] (fun w h => by go_simp) (fun w h => (HT'.out w h.old).mono fun e w' ⟨he, hb⟩ => ⟨he, h.next hb⟩) ?_
  simp only [Act.put, List.setIfInBounds_toArray, List.set_cons_zero, List.set_cons_succ]
  refine q_value ?_ (by rfl) (fun w hw => ?_) ?_
  rotate_left
  · go_simp
    with_reducible rfl
  simp only [Act.put, List.setIfInBounds_toArray, List.set_cons_zero, List.set_cons_succ]
  refine q_call (.string T) (by rfl) 11 #[.slice (some ⟨n2, 0, none⟩) 32 32] (fun w h => by go_simp) (fun w h => (HRT'.out w n2 h.b).mono fun e w' ⟨he, hb⟩ => ⟨he, h.next hb⟩) ?_
  simp only [Act.put, List.setIfInBounds_toArray, List.set_cons_zero, List.set_cons_succ]
  refine q_value ?_ (by rfl) (fun w hw => ?_) ?_
  rotate_left
  · go_simp
    with_reducible rfl
  simp only [Act.put, List.setIfInBounds_toArray, List.set_cons_zero, List.set_cons_succ]
  refine q_value ?_ (by rfl) (fun w hw => ?_) ?_
  rotate_left
  · go_simp
    with_reducible rfl
  simp only [Act.put, List.setIfInBounds_toArray, List.set_cons_zero, List.set_cons_succ]
  refine q_move _ rfl (by rfl) ?_
  simp only [Act.put, List.setIfInBounds_toArray, List.set_cons_zero, List.set_cons_succ]
  refine q_load 24 _ rfl (by rfl) n1 D 24 _ rfl (fun w h => h.a) Tryd.underlying24 rfl i24 ?_
  simp only [Act.put, List.setIfInBounds_toArray, List.set_cons_zero, List.set_cons_succ]
  refine q_call (.string U) (by rfl) 12 #[.agg D] (fun w h => by go_simp) (fun w h => (HH'.out w h.old).mono fun e w' ⟨he, hb⟩ => ⟨he, h.next hb⟩) ?_
  simp only [Act.put, List.setIfInBounds_toArray, List.set_cons_zero, List.set_cons_succ]
  refine q_load 23 _ rfl (by rfl) n2 D 23 _ rfl (fun w h => h.b) Tryd.underlying23 rfl i23 ?_
  simp only [Act.put, List.setIfInBounds_toArray, List.set_cons_zero, List.set_cons_succ]
  refine q_call (.string U) (by rfl) 13 #[.agg D] (fun w h => by go_simp) (fun w h => (HRH'.out w h.old).mono fun e w' ⟨he, hb⟩ => ⟨he, h.next hb⟩) ?_
  simp only [Act.put, List.setIfInBounds_toArray, List.set_cons_zero, List.set_cons_succ]
  refine q_value ?_ (by rfl) (fun w hw => ?_) ?_
  rotate_left
  · go_simp
    with_reducible rfl
  simp only [Act.put, List.setIfInBounds_toArray, List.set_cons_zero, List.set_cons_succ]
  refine q_value ?_ (by rfl) (fun w hw => ?_) ?_
  rotate_left
  · go_simp
    with_reducible rfl
  simp only [Act.put, List.setIfInBounds_toArray, List.set_cons_zero, List.set_cons_succ]
  refine q_assign _ rfl (by rfl) ?_
  simp only [Act.put, List.setIfInBounds_toArray, List.set_cons_zero, List.set_cons_succ]
  refine wpQuiet_nil ?_
  intro w' hw'
  simp only [Exit.then]
  go_wp2
  go_ret
  exact ⟨rfl, hw'.old⟩

/-- The law. -/
theorem sums_any (a : Option Addr) (b off len cap : Nat) (f : Nat → Int) (w : World) (hT : Tab w) (hF : FTab w) (hK : KTab w) (hl : len ≤ 140737488351232) (hB : Bs w a b off len f) (hnone : a = none → len = 0 ∧ cap = 0) :
    Calls Tryd.prog 3 #[.slice a len cap] w fun e w' => e = .returned (.bool true) ∧ Below w.heap.size w w' := by
  have hp := hT.pos
  have hd : ∀ s : St, (∀ i, 0 ≤ dig s i ∧ dig s i < 256) ∧ (∀ i, 32 ≤ i → dig s i = 0) := fun s => by
    refine ⟨fun i => ?_, fun i hi => by unfold dig; rw [if_neg (by omega)]⟩
    unfold dig byteOf
    split
    · exact ⟨Int.emod_nonneg _ (by decide), Int.emod_lt_of_pos _ (by decide)⟩
    · decide
  obtain ⟨q, n, hq, hn⟩ : ∃ q n, len = 64 * q + n ∧ n < 64 := ⟨len / 64, len % 64, by omega, by omega⟩
  obtain ⟨E, hE⟩ : ∃ E, E = if n + 9 > 64 then 2 else 1 := ⟨_, rfl⟩
  have hD := hd (hs f len (64 * q + 64 * E) (q + E))
  refine law_sums a b off len cap f (dig (hs f len (64 * q + 64 * E) (q + E))) _ _ w hl hB hnone ?_ ?_ (fun wr hb => text_any _ wr (hT.below hb hp) hD.1 hD.2) (fun wr g hr => ?_) (fun wr hb => short_any _ wr (hT.below hb hp)) (fun wr _ => refShort_any _ wr)
  · intro wr g cap' hb h1 h2 hcl
    exact sum_any (some ⟨g, 0, none⟩) g 0 len cap' q n E f wr (hF.below hb (by omega)) (hK.below hb (by omega)) ⟨fun _ => rfl, fun i hi => by rw [Nat.zero_add]; exact hcl i hi, hB.bd, hB.past⟩ (fun h => by cases h) h1 h2 hl hq hn hE
  · intro wr hb
    exact refSum_any a b off len cap q n E f wr (hB.below hb) hnone hl hq hn hE
  · exact refEncode_core (some ⟨g, 0, none⟩) g 0 32 32 52 _ wr (by decide) (by decide) (by decide) (fun _ => rfl) (fun i hi => by rw [Nat.zero_add, hr.cell i, arr_at _ _ _ hi]) hD.1 hD.2
end Go.Proofs.YtihemceilmcekaaDoor
