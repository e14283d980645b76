package base

import "cleanroom/api"

// A kind says, for the facts of one kind, which list of a base has them, and what their key fields are.
type kind struct {
	number int
	list   func(b *api.Base) *[]api.Fact
	key    []func(f api.Fact) int
}

// kinds returns all kinds. The order of their key fields is that of the lists of a base.
func kinds() []kind {
	byID := []func(f api.Fact) int{idOf}
	return []kind{
		{api.FProcess, func(b *api.Base) *[]api.Fact { return &b.Processes }, byID},
		{api.FMeasure, func(b *api.Base) *[]api.Fact { return &b.Measures }, byID},
		{api.FSwap, func(b *api.Base) *[]api.Fact { return &b.Swaps }, byID},
		{api.FLot, func(b *api.Base) *[]api.Fact { return &b.Lots }, []func(f api.Fact) int{waferOf, timeOf}},
		{api.FFlow, func(b *api.Base) *[]api.Fact { return &b.Flows }, []func(f api.Fact) int{productOf}},
		{api.FQualified, func(b *api.Base) *[]api.Fact { return &b.Qualified }, byID},
		{api.FHold, func(b *api.Base) *[]api.Fact { return &b.Holds }, byID},
		{api.FRelease, func(b *api.Base) *[]api.Fact { return &b.Releases }, []func(f api.Fact) int{otherOf, partiesOf}},
		{api.FReset, func(b *api.Base) *[]api.Fact { return &b.Resets }, byID},
		{api.FTarget, func(b *api.Base) *[]api.Fact { return &b.Targets }, []func(f api.Fact) int{recipeOf, timeOf}},
		{api.FGap, func(b *api.Base) *[]api.Fact { return &b.Gaps }, byID},
	}
}

// idOf returns the ID of a fact.
func idOf(f api.Fact) int { return f.ID }

// waferOf returns the Wafer of a fact.
func waferOf(f api.Fact) int { return f.Wafer }

// otherOf returns the Other of a fact.
func otherOf(f api.Fact) int { return f.Other }

// productOf returns the Product of a fact.
func productOf(f api.Fact) int { return f.Product }

// recipeOf returns the Recipe of a fact.
func recipeOf(f api.Fact) int { return f.Recipe }

// timeOf returns the Time of a fact.
func timeOf(f api.Fact) int { return f.Time }

// partiesOf returns the Parties of a fact.
func partiesOf(f api.Fact) int { return f.Parties }
