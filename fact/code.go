package fact

import (
	"strings"

	"cleanroom/api"
	"cleanroom/wire"
)

// encoding returns the encoding of a valid fact.
func encoding(f api.Fact) string {
	gone := 0
	if f.Gone {
		gone = 1
	}
	code := put(f.Kind, f.Version, f.Day, gone) + put(values(f, fields(f.Kind))...)
	if f.Kind == api.FFlow {
		// No error: MaxText is less than MaxString.
		text, _ := wire.PutString(f.Text)
		code += text
	}
	return code
}

// put returns the encodings of numbers, one after the other.
func put(numbers ...int) string {
	var all strings.Builder
	for _, n := range numbers {
		// No error: the numbers of a valid fact are much smaller than MaxInt.
		code, _ := wire.PutInt(n)
		all.WriteString(code)
	}
	return all.String()
}

// A cursor is a place in a text, up to which it was read.
type cursor struct {
	text string
	at   int
}

// A reader reads the encoding of a fact. It stops by a panic with an error, from whatever depth.
type reader struct {
	cursor
	api.Fact // what was read
}

// attempt returns the error with which read stops, or OK if it returns.
func attempt(read func()) (err api.Errno) {
	defer func() {
		switch cause := recover().(type) {
		case nil:
		case api.Errno:
			err = cause
		default:
			err = api.ErrFact
		}
	}()
	read()
	return api.OK
}

// require stops with an error if a condition is not true.
func require(right bool, err api.Errno) {
	if !right {
		panic(err)
	}
}

// readFact reads a fact, behind which nothing is left.
func (r *reader) readFact() {
	r.Kind = r.nextNumber()
	require(within(r.Kind, 1, api.MaxKind), api.ErrFact)
	r.Version = r.nextNumber()
	r.Day = r.nextNumber()
	gone := r.nextNumber()
	for _, x := range fields(r.Kind) {
		*place(&r.Fact, x) = r.nextNumber()
	}
	if r.Kind == api.FFlow {
		r.Text = r.nextString()
	}
	require(r.at == len(r.text), api.ErrWire)
	require(within(gone, 0, 1), api.ErrFact)
	r.Gone = gone == 1
	require(Valid(r.Fact), api.ErrFact)
}

// nextNumber reads a number.
func (c *cursor) nextNumber() int {
	n, next, err := wire.Int(c.text, c.at)
	require(err == api.OK, api.ErrWire)
	c.at = next
	return n
}

// nextString reads a string.
func (c *cursor) nextString() string {
	s, next, err := wire.String(c.text, c.at)
	require(err == api.OK, api.ErrWire)
	c.at = next
	return s
}
