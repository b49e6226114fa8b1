// Package lay is layer 1: see shared/doc/01-lay.md.
package lay

import (
	"math/bits"
	"strings"

	"saddlebag/api"
)

// The greatest number has widest bytes, and a byte ahead that says so: laid in all.
const (
	widest = 8
	laid   = 1 + widest
)

// PutNumber lays numbers behind bytes; PutText texts.
func PutNumber(b []byte, v ...uint64) []byte {
	out := behind(b, laid*len(v))
	for _, n := range v {
		out = addNumber(out, n)
	}
	return out
}

func PutText(b []byte, s ...string) []byte {
	room := laid * len(s)
	for _, t := range s {
		room += len(t)
	}
	out := behind(b, room)
	for _, t := range s {
		out = addNumber(out, uint64(len(t)))
		out = append(out, t...)
	}
	return out
}

// behind copies first, so that the spare room of what was handed in is never written.
func behind(b []byte, room int) []byte {
	return append(make([]byte, 0, len(b)+room), b...)
}

func addNumber(out []byte, n uint64) []byte {
	many := (bits.Len64(n) + 7) / 8
	out = append(out, byte(many))
	for i := many - 1; i >= 0; i-- {
		out = append(out, byte(n>>(8*i)))
	}
	return out
}

// In is bytes that are read, one part behind the other.
type In struct {
	made bool // tells it from a plain In{}, which is none
	rest string
	bad  api.Errno
}

// Read begins to read; Number reads a number; Small one that is not above a greatest; Text a text of at most so many bytes; Raw so many bytes.
func Read(b string) *In { return &In{made: true, rest: b} }

func (r *In) Number() uint64 {
	if r.Bad() != api.OK {
		return 0
	}
	many, e := width(r.rest)
	if e != api.OK {
		r.fail(e)
		return 0
	}
	v := uint64(0)
	for i := 1; i <= many; i++ {
		v = v<<8 | uint64(r.rest[i])
	}
	r.rest = r.rest[1+many:]
	return v
}

// width tells how many bytes the number at the beginning has. A 0 ahead is refused, since each number has one form only.
func width(s string) (int, api.Errno) {
	if s == "" {
		return 0, api.ErrEnd
	}
	many := int(s[0])
	switch {
	case many > widest:
		return 0, api.ErrForm
	case many > len(s)-1:
		return 0, api.ErrEnd
	case many > 0 && s[1] == 0:
		return 0, api.ErrForm
	}
	return many, api.OK
}

func (r *In) Small(most int) int {
	v := r.Number()
	if r.Bad() != api.OK {
		return 0
	}
	// A most below 0 would turn into a great number, so it is asked for first.
	if most < 0 || v > uint64(most) {
		r.fail(api.ErrBig)
		return 0
	}
	return int(v)
}

func (r *In) Text(most int) string { return r.Raw(r.Small(most)) }

func (r *In) Raw(many int) string {
	switch {
	case r.Bad() != api.OK:
		return ""
	case many < 0:
		r.fail(api.ErrArg)
		return ""
	case many > len(r.rest):
		r.fail(api.ErrEnd)
		return ""
	}
	// A copy, so that a short text that is kept does not hold all that was read.
	s := strings.Clone(r.rest[:many])
	r.rest = r.rest[many:]
	return s
}

// fail lets go of what is left, so that everything behind the first error is told as nothing.
func (r *In) fail(e api.Errno) {
	r.bad = e
	r.rest = ""
}

// Left tells how many bytes are left; Bad the first error; End that, or whether bytes are left.
func (r *In) Left() int {
	if r == nil {
		return 0
	}
	return len(r.rest)
}

func (r *In) Bad() api.Errno {
	if r == nil || !r.made {
		return api.ErrNil
	}
	return r.bad
}

func (r *In) End() api.Errno {
	if e := r.Bad(); e != api.OK {
		return e
	}
	if r.rest != "" {
		return api.ErrForm
	}
	return api.OK
}
