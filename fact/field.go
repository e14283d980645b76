package fact

import "cleanroom/api"

// A field is one of the numbers of facts that only some kinds have.
type field int

// The fields, as api.Fact names them.
const (
	id field = iota
	wafer
	other
	lot
	product
	tool
	chamber
	step
	recipe
	revision
	time
	until
	value
	parties
)

// A span says from what to what a number may be.
type span struct {
	least int
	most  int
}

// usual has the spans of the fields, apart from exceptions.
var usual = [...]span{
	id:       {1, api.MaxID},
	wafer:    {1, api.MaxID},
	other:    {1, api.MaxID},
	lot:      {1, api.MaxID},
	product:  {1, api.MaxID},
	tool:     {0, api.MaxTools - 1},
	chamber:  {0, api.MaxChambers - 1},
	step:     {0, api.MaxSteps - 1},
	recipe:   {1, api.MaxID},
	revision: {1, api.MaxID},
	time:     {0, api.MaxTime},
	until:    {0, api.MaxTime},
	value:    {-api.MaxValue, api.MaxValue},
	parties:  {1, api.MaxParties},
}

// exceptions returns the spans of a kind that are not the usual ones.
func exceptions(kind int) map[field]span {
	switch kind {
	case api.FProcess:
		return map[field]span{value: {-api.MaxParameter * api.Grain, api.MaxParameter * api.Grain}}
	case api.FHold:
		// Here, 0 stands for any one; numbers that begin at 0 otherwise are greater by 1.
		return map[field]span{
			wafer:    {0, api.MaxID},
			lot:      {0, api.MaxID},
			tool:     {0, api.MaxTools},
			chamber:  {0, api.MaxChambers},
			step:     {0, api.MaxSteps},
			recipe:   {0, api.MaxID},
			revision: {0, api.MaxID},
		}
	}
	return nil
}

// fields returns the numbers that a kind has, in the order of its encoding. An FFlow has its Text behind them.
func fields(kind int) []field {
	switch kind {
	case api.FProcess:
		return []field{id, wafer, tool, chamber, step, recipe, revision, time, until, value}
	case api.FMeasure:
		return []field{id, time, value}
	case api.FSwap:
		return []field{id, wafer, other, time}
	case api.FLot:
		return []field{wafer, lot, product, time}
	case api.FFlow:
		return []field{product}
	case api.FQualified:
		return []field{id, tool, chamber, recipe, revision, time, until}
	case api.FHold:
		return []field{id, wafer, lot, tool, chamber, step, recipe, revision, time, until, parties}
	case api.FRelease:
		return []field{other, parties, time}
	case api.FReset:
		return []field{id, tool, chamber, time}
	case api.FTarget:
		return []field{recipe, time, value}
	case api.FGap:
		return []field{id, tool, chamber, time, until}
	}
	return nil
}

// keyFields returns the key fields of a kind, in the order of its encoding.
func keyFields(kind int) []field {
	switch kind {
	case api.FLot:
		return []field{wafer, time}
	case api.FFlow:
		return []field{product}
	case api.FRelease:
		return []field{other, parties}
	case api.FTarget:
		return []field{recipe, time}
	}
	return []field{id}
}

// place returns where a field of a fact is.
func place(f *api.Fact, x field) *int {
	switch x {
	case id:
		return &f.ID
	case wafer:
		return &f.Wafer
	case other:
		return &f.Other
	case lot:
		return &f.Lot
	case product:
		return &f.Product
	case tool:
		return &f.Tool
	case chamber:
		return &f.Chamber
	case step:
		return &f.Step
	case recipe:
		return &f.Recipe
	case revision:
		return &f.Revision
	case time:
		return &f.Time
	case until:
		return &f.Until
	case value:
		return &f.Value
	}
	return &f.Parties
}

// values returns the values of some fields of a fact.
func values(f api.Fact, l []field) []int {
	var all []int
	for _, x := range l {
		all = append(all, *place(&f, x))
	}
	return all
}
