package aterm

import "stillroom/api"

// writer writes a derivation's text, piece by piece.
type writer struct {
	text []byte
	big  bool // a piece had no room: nothing is written any more
}

// put writes signs.
func (w *writer) put(signs string) {
	// What may be handed in is far more than what may be told: it is not
	// written out ahead of asking for its room.
	w.big = w.big || len(signs) > maxBytes-len(w.text)
	if !w.big {
		w.text = append(w.text, signs...)
	}
}

// quoted writes a text between quotes.
func (w *writer) quoted(s string) {
	w.big = w.big || len(s) > maxBytes
	if !w.big {
		w.put(Quote(s))
	}
}

// drv writes a derivation.
func (w *writer) drv(d api.Drv) {
	w.put(firstSigns)
	putList(w, d.Outputs, w.output)
	w.put(comma)
	putList(w, d.Inputs, w.input)
	w.put(comma)
	putList(w, d.Sources, w.quoted)
	w.put(comma)
	w.quoted(d.System)
	w.put(comma)
	w.quoted(d.Builder)
	w.put(comma)
	putList(w, d.Args, w.quoted)
	w.put(comma)
	putList(w, d.Env, w.pair)
	w.put(lastSign)
}

// output writes an output.
func (w *writer) output(o api.Output) {
	w.put(openRow)
	putParted(w, []string{o.Name, o.Path, o.Hash}, w.quoted)
	w.put(shutRow)
}

// input writes an input.
func (w *writer) input(in api.Input) {
	w.put(openRow)
	w.quoted(in.Path)
	w.put(comma)
	putList(w, in.Names, w.quoted)
	w.put(shutRow)
}

// pair writes a key of the environment and its value.
func (w *writer) pair(p api.Pair) {
	w.put(openRow)
	putParted(w, []string{p.Key, p.Value}, w.quoted)
	w.put(shutRow)
}

// putList writes a list, each of its elements by put.
func putList[T any](w *writer, list []T, put func(T)) {
	w.put(openList)
	putParted(w, list, put)
	w.put(shutList)
}

// putParted writes elements by put, with commas between.
func putParted[T any](w *writer, list []T, put func(T)) {
	for i, x := range list {
		if i > 0 {
			w.put(comma)
		}
		put(x)
	}
}
