package aterm

import (
	"errors"
	"strconv"
	"strings"

	"stillroom/api"
)

// fault is something that is wrong with a text.
type fault struct {
	errno api.Errno
	at    int // how many bytes were read
}

// Error tells it.
func (f *fault) Error() string {
	return "aterm: byte " + strconv.Itoa(f.at) + ": " + f.errno.Error()
}

// errnoOf tells the number for an error of reading a text.
func errnoOf(err error) api.Errno {
	var f *fault
	if errors.As(err, &f) {
		return f.errno
	}
	return api.OK
}

// read reads all of a text as a derivation's.
func read(s string) (api.Drv, error) {
	if len(s) > maxBytes {
		return api.Drv{}, &fault{api.ErrBig, 0}
	}
	r := &reader{all: s}
	d := r.drv()
	if r.at < len(r.all) {
		r.fail(api.ErrForm)
	}
	// The form of all of it is asked first: else Right's error could stand
	// ahead of a fault behind.
	if e := Right(d); e != api.OK {
		r.fail(e)
	}
	return d, r.err
}

// reader reads a text's signs one behind the other. From its first fault on it
// reads nothing any more, and tells zero values.
type reader struct {
	all string
	at  int   // what is ahead of it was read
	err error // the first fault
}

// fail keeps a fault behind what was read, if it is the first.
func (r *reader) fail(e api.Errno) {
	if r.err == nil {
		r.err = &fault{e, r.at}
	}
}

// sees tells whether these signs are next.
func (r *reader) sees(signs string) bool {
	return r.err == nil && strings.HasPrefix(r.all[r.at:], signs)
}

// pass passes by signs, which must be next.
func (r *reader) pass(signs string) {
	if !r.sees(signs) {
		r.fail(api.ErrForm)
		return
	}
	r.at += len(signs)
}

// next reads a byte.
func (r *reader) next() byte {
	if r.err != nil || r.at == len(r.all) {
		r.fail(api.ErrForm)
		return 0
	}
	r.at++
	return r.all[r.at-1]
}

// drv reads a derivation.
func (r *reader) drv() (d api.Drv) {
	r.pass(firstSigns)
	d.Outputs = readList(r, r.output)
	r.pass(comma)
	d.Inputs = readList(r, r.input)
	r.pass(comma)
	d.Sources = readList(r, r.text)
	r.pass(comma)
	d.System = r.text()
	r.pass(comma)
	d.Builder = r.text()
	r.pass(comma)
	d.Args = readList(r, r.text)
	r.pass(comma)
	d.Env = readList(r, r.pair)
	r.pass(lastSign)
	return d
}

// output reads an output.
func (r *reader) output() (o api.Output) {
	r.pass(openRow)
	o.Name = r.text()
	r.pass(comma)
	o.Path = r.text()
	r.pass(comma)
	o.Hash = r.text()
	r.pass(shutRow)
	return o
}

// input reads an input.
func (r *reader) input() (in api.Input) {
	r.pass(openRow)
	in.Path = r.text()
	r.pass(comma)
	in.Names = readList(r, r.text)
	r.pass(shutRow)
	return in
}

// pair reads a key of the environment and its value.
func (r *reader) pair() (p api.Pair) {
	r.pass(openRow)
	p.Key = r.text()
	r.pass(comma)
	p.Value = r.text()
	r.pass(shutRow)
	return p
}

// readList reads a list, each of its elements by read.
func readList[T any](r *reader, read func() T) []T {
	var list []T
	r.pass(openList)
	for r.err == nil && !r.sees(shutList) {
		if len(list) > 0 {
			r.pass(comma)
		}
		list = append(list, read())
	}
	r.pass(shutList)
	return list
}

// text reads a text between quotes.
func (r *reader) text() string {
	var b []byte
	r.pass(quote)
	for r.err == nil && !r.sees(quote) {
		b = append(b, r.letter())
	}
	r.pass(quote)
	return string(b)
}

// letter reads what stands for one byte between quotes.
func (r *reader) letter() byte {
	if r.sees(slash) {
		r.pass(slash)
		c, ok := meantBy(r.next())
		if !ok {
			r.fail(api.ErrForm)
		}
		return c
	}
	c := r.next()
	if _, ok := signOf(c); ok {
		r.fail(api.ErrForm)
	}
	return c
}
