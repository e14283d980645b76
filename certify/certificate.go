package certify

import (
	"strings"

	"cleanroom/api"
	"cleanroom/digest"
	"cleanroom/wire"
)

// bounds returns where the numbers of a plan are, apart from its lists, in the order in which a certificate has them.
func bounds(p *api.Plan) []*int {
	return []*int{&p.Entry, &p.MoveMin, &p.MoveMax}
}

// stageNumbers returns where the numbers of a stage are, in the order in which a certificate has them.
func stageNumbers(s *api.Stage) []*int {
	return []*int{&s.Min, &s.Max, &s.Main.Tool, &s.Main.Start, &s.Spare.Tool, &s.Spare.Start}
}

// windowNumbers returns where the numbers of a window are, in the order in which a certificate has them.
func windowNumbers(w *api.Window) []*int {
	return []*int{&w.From, &w.To, &w.Limit}
}

// planText returns what the certificate of a valid plan has before the digest.
func planText(p api.Plan) string {
	var text strings.Builder
	put := func(n int) {
		// No error: the numbers of a valid plan are much smaller than MaxInt.
		code, _ := wire.PutInt(n)
		text.WriteString(code)
	}
	for _, n := range bounds(&p) {
		put(*n)
	}
	putList(put, p.Stages, stageNumbers)
	putList(put, p.Windows, windowNumbers)
	return text.String()
}

// putList puts the length of a list, and the numbers of its elements.
func putList[T any](put func(n int), list []T, numbers func(*T) []*int) {
	put(len(list))
	for _, element := range list {
		for _, n := range numbers(&element) {
			put(*n)
		}
	}
}

// A reader reads a certificate. It stops by a panic with an error, from whatever depth.
type reader struct {
	text string
	at   int      // the offset of what was not read yet
	plan api.Plan // what was read
}

// attempt returns the error with which read stops, or OK if it returns.
func attempt(read func()) (err api.Errno) {
	defer func() {
		switch cause := recover().(type) {
		case nil:
		case api.Errno:
			err = cause
		default:
			err = api.ErrCertificate
		}
	}()
	read()
	return api.OK
}

// require stops with an error if a condition is not true.
func require(right bool, err api.Errno) {
	if !right {
		panic(err)
	}
}

// readCertificate reads the plan, and checks that it is what was sealed, and is safe.
func (r *reader) readCertificate() {
	r.fill(bounds(&r.plan))
	r.plan.Stages = readList(r, 1, api.MaxStages, stageNumbers)
	r.plan.Windows = readList(r, 0, api.MaxWindows, windowNumbers)
	text, seal := r.text[:r.at], r.text[r.at:]
	require(len(seal) == api.DigestSize, api.ErrWire)
	require(seal == digest.Sum(text), api.ErrCertificate)
	require(isSafe(r.plan), api.ErrCertificate)
}

// readList reads a list, which has from least to most elements.
func readList[T any](r *reader, least int, most int, numbers func(*T) []*int) []T {
	count := r.number()
	require(count >= least && count <= most, api.ErrCertificate)
	var list []T
	for range count {
		var element T
		r.fill(numbers(&element))
		list = append(list, element)
	}
	return list
}

// fill reads as many numbers as there are places for.
func (r *reader) fill(places []*int) {
	for _, place := range places {
		*place = r.number()
	}
}

// number reads a number.
func (r *reader) number() int {
	n, next, err := wire.Int(r.text, r.at)
	require(err == api.OK, api.ErrWire)
	r.at = next
	return n
}
