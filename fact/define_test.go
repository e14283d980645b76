package fact_test

import (
	"encoding/binary"
	"math"
	"math/rand"
	"reflect"
	"slices"
	"strings"

	"cleanroom/api"
)

// The functions whose names begin with "def" say what the chapter says, in its words. They find the fields of facts by their names, and encode numbers with Go's own library, whose "varints" are the same.

// defTable is the chapter's table: each kind from 1 on, its fields, and its key fields.
const defTable = `
FProcess | ID, Wafer, Tool, Chamber, Step, Recipe, Revision, Time, Until, Value | ID
FMeasure | ID, Time, Value | ID
FSwap | ID, Wafer, Other, Time | ID
FLot | Wafer, Lot, Product, Time | Wafer, Time
FFlow | Product, Text | Product
FQualified | ID, Tool, Chamber, Recipe, Revision, Time, Until | ID
FHold | ID, Wafer, Lot, Tool, Chamber, Step, Recipe, Revision, Time, Until, Parties | ID
FRelease | Other, Parties, Time | Other, Parties
FReset | ID, Tool, Chamber, Time | ID
FTarget | Recipe, Time, Value | Recipe, Time
FGap | ID, Tool, Chamber, Time, Until | ID
`

// kinds are the numbers of all kinds.
var kinds = []int{1, 2, 3, 4, 5, 6, 7, 8, 9, 10, 11}

// rows has, for each kind, its fields and its key fields.
var rows = func() [][2][]string {
	all := make([][2][]string, 1)
	for line := range strings.Lines(strings.TrimPrefix(defTable, "\n")) {
		columns := strings.Split(strings.TrimSuffix(line, "\n"), " | ")
		all = append(all, [2][]string{strings.Split(columns[1], ", "), strings.Split(columns[2], ", ")})
	}
	return all
}()

// defRow returns the fields and the key fields of a kind.
func defRow(kind int) ([]string, []string) {
	return rows[kind][0], rows[kind][1]
}

// ranges has, for each number, the least and the greatest one.
var ranges = map[string][2]int{
	"ID": {1, 1000000}, "Other": {1, 1000000}, "Wafer": {1, 1000000}, "Lot": {1, 1000000}, "Product": {1, 1000000}, "Recipe": {1, 1000000}, "Revision": {1, 1000000},
	"Tool": {0, 59}, "Chamber": {0, 3}, "Step": {0, 39},
	"Time": {0, 1000000}, "Until": {0, 1000000}, "Parties": {1, 255}, "Value": {-1000000, 1000000},
}

// holdRanges has those that are others for an FHold.
var holdRanges = map[string][2]int{
	"Wafer": {0, 1000000}, "Lot": {0, 1000000}, "Recipe": {0, 1000000}, "Revision": {0, 1000000},
	"Tool": {0, 60}, "Chamber": {0, 4}, "Step": {0, 40},
}

// defRange returns the least and the greatest number of a field of a kind.
func defRange(kind int, name string) (int, int) {
	r := ranges[name]
	if kind == api.FProcess && name == "Value" {
		r = [2]int{-10000000, 10000000}
	}
	if x, ok := holdRanges[name]; ok && kind == api.FHold {
		r = x
	}
	return r[0], r[1]
}

// field returns a field of a fact.
func field(f *api.Fact, name string) reflect.Value {
	return reflect.ValueOf(f).Elem().FieldByName(name)
}

// get returns a number of a fact.
func get(f api.Fact, name string) int {
	return int(field(&f, name).Int())
}

// set returns a fact with a number in a field.
func set(f api.Fact, name string, n int) api.Fact {
	field(&f, name).SetInt(int64(n))
	return f
}

// rowNames are the names of the fields that only facts of some kinds have.
var rowNames = func() []string {
	var all []string
	for _, x := range reflect.VisibleFields(reflect.TypeFor[api.Fact]()) {
		if !slices.Contains([]string{"Kind", "Version", "Day", "Gone"}, x.Name) {
			all = append(all, x.Name)
		}
	}
	return all
}()

// numberNames are the names of all fields that are numbers.
var numberNames = slices.DeleteFunc(append([]string{"Kind", "Version", "Day"}, rowNames...), func(name string) bool { return name == "Text" })

// defValid reports whether f is valid.
func defValid(f api.Fact) bool {
	if !slices.Contains(kinds, f.Kind) || f.Version < 1 || f.Version > 1000000 || f.Day < 0 || f.Day > 100000 {
		return false
	}
	row, _ := defRow(f.Kind)
	for _, name := range rowNames {
		if !slices.Contains(row, name) {
			if !field(&f, name).IsZero() {
				return false
			}
		} else if name == "Text" {
			if len(f.Text) > 8192 {
				return false
			}
		} else if least, most := defRange(f.Kind, name); get(f, name) < least || get(f, name) > most {
			return false
		}
	}
	if slices.Contains(row, "Time") && slices.Contains(row, "Until") && f.Time > f.Until {
		return false
	}
	return f.Kind != api.FSwap || f.Wafer != f.Other
}

// varints returns the encodings of numbers.
func varints(numbers ...int) string {
	var code []byte
	for _, n := range numbers {
		code = binary.AppendVarint(code, int64(n))
	}
	return string(code)
}

// defFields returns the encoding of some fields of a fact.
func defFields(f api.Fact, names []string) string {
	code := ""
	for _, name := range names {
		if name == "Text" {
			code += varints(len(f.Text)) + f.Text
		} else {
			code += varints(get(f, name))
		}
	}
	return code
}

// defKey returns the key of f.
func defKey(f api.Fact) string {
	if !defValid(f) {
		return ""
	}
	_, key := defRow(f.Kind)
	return varints(f.Kind) + defFields(f, key)
}

// defEncoding returns the encoding of a fact, of which only the Kind must be valid.
func defEncoding(f api.Fact) string {
	gone := map[bool]int{false: 0, true: 1}
	row, _ := defRow(f.Kind)
	return varints(f.Kind, f.Version, f.Day, gone[f.Gone]) + defFields(f, row)
}

// defEncode returns what Encode is to return.
func defEncode(f api.Fact) (string, api.Errno) {
	if !defValid(f) {
		return "", 150
	}
	return defEncoding(f), 0
}

// defPrevails reports whether a counts rather than b.
func defPrevails(a api.Fact, b api.Fact) bool {
	if !defValid(a) || !defValid(b) || defKey(a) != defKey(b) {
		return false
	}
	return a.Version > b.Version || a.Version == b.Version && strings.Compare(defEncoding(a), defEncoding(b)) > 0
}

// cut returns the number at the beginning of s, what follows it, and whether there is one.
func cut(s string) (int, string, bool) {
	n, length := binary.Varint([]byte(s))
	if length <= 0 || n < -(1<<62-1) || n > 1<<62-1 || varints(int(n)) != s[:length] {
		return 0, s, false
	}
	return int(n), s[length:], true
}

// defDecode returns what Decode is to return.
func defDecode(s string) (api.Fact, api.Errno) {
	var none, f api.Fact
	kind, s, ok := cut(s)
	if !ok {
		return none, 10
	}
	if !slices.Contains(kinds, kind) {
		return none, 150
	}
	f.Kind = kind
	gone := 0
	next := func() int {
		n := 0
		if ok {
			n, s, ok = cut(s)
		}
		return n
	}
	f.Version, f.Day, gone = next(), next(), next()
	row, _ := defRow(kind)
	for _, name := range row {
		if name != "Text" {
			f = set(f, name, next())
		} else if length := next(); ok && length >= 0 && length <= 65536 && length <= len(s) {
			f.Text, s = s[:length], s[length:]
		} else {
			ok = false
		}
	}
	if !ok || s != "" {
		return none, 10
	}
	f.Gone = gone == 1
	if gone != 0 && gone != 1 || !defValid(f) {
		return none, 150
	}
	return f, 0
}

// extremes are numbers at and beyond all bounds.
var extremes = func() []int {
	all := []int{math.MinInt, math.MinInt + 1, -1 << 62, 1 - 1<<62, -1 << 32, 1 << 32, 1<<32 + 1, 1<<62 - 1, 1 << 62, math.MaxInt - 1, math.MaxInt}
	for _, n := range []int{0, 3, 4, 11, 39, 40, 59, 60, 63, 64, 255, 256, 8191, 8192, 100000, 1000000, 10000000} {
		all = append(all, n-1, n, n+1, -n-1, -n, 1-n)
	}
	slices.Sort(all)
	return slices.Compact(all)
}()

// number returns a number from least to most, which is often one of these, or near the least one.
func number(r *rand.Rand, least int, most int) int {
	switch r.Intn(5) {
	case 0:
		return least
	case 1:
		return most
	case 2, 3:
		return least + r.Intn(min(most-least, 5)+1)
	}
	return least + r.Intn(most-least+1)
}

// randomText returns a text, in which there are many bytes that are special in encodings.
func randomText(r *rand.Rand) string {
	length := number(r, 0, 200)
	if r.Intn(50) == 0 {
		length = 8192 - r.Intn(2)
	}
	text := make([]byte, length)
	for i := range text {
		text[i] = []byte{0, 1, 2, 'x', 127, 128, 129, 255}[r.Intn(8)]
	}
	return string(text)
}

// randomFact returns a valid fact of a kind.
func randomFact(r *rand.Rand, kind int) api.Fact {
	f := api.Fact{Kind: kind, Version: number(r, 1, 1000000), Day: number(r, 0, 100000), Gone: r.Intn(2) == 0}
	row, _ := defRow(kind)
	for _, name := range row {
		if name == "Text" {
			f.Text = randomText(r)
		} else {
			least, most := defRange(kind, name)
			f = set(f, name, number(r, least, most))
		}
	}
	if slices.Contains(row, "Until") && f.Time > f.Until {
		f.Time, f.Until = f.Until, f.Time
	}
	if kind == api.FSwap && f.Wafer == f.Other {
		f.Other = f.Wafer%1000000 + 1
	}
	return f
}

// changedFact returns a fact with one of its fields changed, whether or not the kind has this field.
func changedFact(r *rand.Rand, f api.Fact) api.Fact {
	if r.Intn(10) == 0 {
		f.Text = randomText(r)
		return f
	}
	return set(f, numberNames[r.Intn(len(numberNames))], extremes[r.Intn(len(extremes))])
}

// variant returns a fact of the same kind that differs in one of the fields, or in Version, Day or Gone; it is nearly always valid.
func variant(r *rand.Rand, f api.Fact) api.Fact {
	g := randomFact(r, f.Kind)
	row, _ := defRow(f.Kind)
	switch name := row[r.Intn(len(row))]; r.Intn(5) {
	case 0:
		f.Version = 1 + r.Intn(3)
	case 1:
		f.Day = g.Day
	case 2:
		f.Gone = !f.Gone
	default:
		field(&f, name).Set(field(&g, name))
	}
	return f
}
