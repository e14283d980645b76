package reserve_test

import (
	"math"
	"reflect"
	"slices"
	"testing"

	"cleanroom/api"
	"cleanroom/calendar"
	"cleanroom/plan"
	"cleanroom/reserve"
)

// single returns the request of the chapter's examples.
func single() api.Request {
	return api.Request{MoveMin: 5, MoveMax: 10, Needs: []api.Need{need(20, 30, 1, 2)}}
}

// double returns a request of two needs with a window.
func double(limit int) api.Request {
	return api.Request{
		Entry:   100,
		MoveMin: 1,
		MoveMax: 4,
		Needs:   []api.Need{need(10, 12, 1, 2), need(6, 6, 3, 4, 5)},
		Windows: []api.Window{w(0, 1, limit)},
	}
}

// doubled returns the plan that is made of double for an empty calendar.
func doubled(limit int) api.Plan {
	return planOf(double(limit), stage(10, 12, 1, 104, 2, 119), stage(6, 6, 3, 135, 4, 144))
}

// largest returns a request with as many needs, tools and windows as there may be.
func largest() api.Request {
	r := api.Request{Entry: 7, MoveMin: 1, MoveMax: 3}
	for i := range 4 {
		r.Needs = append(r.Needs, need(4+i, 6+i, i, 10+i, 59-i))
		for to := i + 1; to < 4; to++ {
			r.Windows = append(r.Windows, w(i, to, 200))
		}
	}
	return r
}

// planOf returns a plan for a request.
func planOf(r api.Request, stages ...api.Stage) api.Plan {
	return api.Plan{Entry: r.Entry, MoveMin: r.MoveMin, MoveMax: r.MoveMax, Windows: r.Windows, Stages: stages}
}

// made returns a calendar with bookings, which must be possible.
func made(t *testing.T, list ...api.Booking) *calendar.Calendar {
	t.Helper()
	c := calendar.New()
	for _, x := range list {
		if err := c.Book(x); err != api.OK {
			t.Fatal("Book", x, err)
		}
	}
	return c
}

// checkBookings compares all bookings of a calendar.
func checkBookings(t *testing.T, c *calendar.Calendar, want ...api.Booking) {
	t.Helper()
	if all := bookings(c); !slices.Equal(all, want) {
		t.Fatalf("the bookings are %v, not %v", all, want)
	}
}

// checkMake checks what Make returns, and that it changes nothing.
func checkMake(t *testing.T, c *calendar.Calendar, r api.Request, want api.Plan, err api.Errno) {
	t.Helper()
	before := bookings(c)
	if p, e := reserve.Make(c, r); !plan.Same(p, want) || e != err {
		t.Fatalf("Make(%+v) = %+v, %d, not %+v, %d", r, p, e, want, err)
	}
	checkBookings(t, c, before...)
}

// checkBook books a plan, and checks the calendar: with an error, nothing has changed.
func checkBook(t *testing.T, c *calendar.Calendar, p api.Plan, owner int, want api.Errno) {
	t.Helper()
	all := bookings(c)
	if err := reserve.Book(c, p, owner); err != want {
		t.Fatalf("Book(%+v, %d) = %d, not %d", p, owner, err, want)
	}
	if want == api.OK {
		all = bookings(made(t, append(all, plan.Bookings(p, owner)...)...))
	}
	checkBookings(t, c, all...)
}

// repair is what Repair is given, apart from the calendar.
type repair struct {
	p      api.Plan
	r      api.Request
	owner  int
	done   int
	entry  int
	failed int
}

// of calls Repair.
func (x repair) of(c *calendar.Calendar) (api.Plan, api.Errno) {
	return reserve.Repair(c, x.p, x.r, x.owner, x.done, x.entry, x.failed)
}

// checkRepair checks what Repair returns, and the calendar: with an error, nothing has changed, otherwise all bookings of the owner are those of the new plan.
func checkRepair(t *testing.T, c *calendar.Calendar, x repair, want api.Plan, err api.Errno) {
	t.Helper()
	all := bookings(c)
	if p, e := x.of(c); !plan.Same(p, want) || e != err {
		t.Fatalf("Repair(%+v) = %+v, %d, not %+v, %d", x, p, e, want, err)
	}
	if err == api.OK {
		all = slices.DeleteFunc(all, func(y api.Booking) bool { return y.Owner == x.owner })
		all = bookings(made(t, append(all, plan.Bookings(want, x.owner)...)...))
	}
	checkBookings(t, c, all...)
}

// P10.1: the chapter's examples.
func TestExamples(t *testing.T) {
	c := calendar.New()
	p := planOf(single(), stage(20, 30, 1, 10, 2, 49))
	checkMake(t, c, single(), p, api.OK)
	checkBook(t, c, p, 7, api.OK)
	checkBookings(t, c, b(1, 10, 40, 7), b(2, 49, 79, 7))
	checkMake(t, c, single(), planOf(single(), stage(20, 30, 2, 10, 1, 49)), api.OK)
	checkBook(t, c, p, 7, api.ErrReserve)
	checkRepair(t, c, repair{p, single(), 7, 0, 5, 1}, api.Plan{}, api.ErrReserve)
	checkBookings(t, c, b(1, 10, 40, 7), b(2, 49, 79, 7))
}

// P10.1: the slots of a stage are the first ones, from when the wafers are there at the latest.
func TestSlots(t *testing.T) {
	both := func(start int, end int) []api.Booking { return []api.Booking{b(1, start, end, 9), b(2, start, end, 9)} }
	for _, x := range []struct {
		booked []api.Booking
		want   api.Stage
	}{
		{nil, stage(20, 30, 1, 10, 2, 49)},
		{both(0, 10), stage(20, 30, 1, 10, 2, 49)},
		{both(0, 11), stage(20, 30, 1, 11, 2, 50)},
		{both(40, 49), stage(20, 30, 1, 10, 2, 49)},
		{both(39, 40), stage(20, 30, 1, 40, 2, 79)},
		{both(40, 50), stage(20, 30, 1, 10, 2, 50)},
		{both(78, 79), stage(20, 30, 1, 10, 2, 79)},
		{both(79, 99), stage(20, 30, 1, 10, 2, 49)},
		{both(40, 999970), stage(20, 30, 1, 10, 2, 999970)},
		{both(20, 999931), stage(20, 30, 1, 999931, 2, 999970)},
		// The tools change places if this ends earlier.
		{[]api.Booking{b(1, 0, 11, 9)}, stage(20, 30, 2, 10, 1, 49)},
		{[]api.Booking{b(2, 48, 50, 9)}, stage(20, 30, 2, 10, 1, 49)},
		{[]api.Booking{b(2, 0, 49, 9)}, stage(20, 30, 1, 10, 2, 49)},
		{[]api.Booking{b(1, 0, 999970, 9)}, stage(20, 30, 2, 10, 1, 999970)},
		// There are no slots.
		{[]api.Booking{b(1, 0, 1000000, 9)}, api.Stage{}},
		{[]api.Booking{b(2, 0, 1000000, 9)}, api.Stage{}},
		{[]api.Booking{b(2, 0, 999971, 9)}, api.Stage{}},
		{both(40, 999971), api.Stage{}},
		{both(20, 999932), api.Stage{}},
		{both(0, 1000000), api.Stage{}},
	} {
		c := made(t, x.booked...)
		c.Book(b(3, 0, 1000000, 9))
		if x.want == (api.Stage{}) {
			checkMake(t, c, single(), api.Plan{}, api.ErrReserve)
		} else {
			checkMake(t, c, single(), planOf(single(), x.want), api.OK)
		}
	}
}

// P10.1: requests at the end of time, on both sides of the bound.
func TestEndOfTime(t *testing.T) {
	r := api.Request{Entry: 999999, Needs: []api.Need{need(1, 1, 1, 2)}}
	checkMake(t, calendar.New(), r, planOf(r, stage(1, 1, 1, 999999, 2, 999999)), api.OK)
	r.Entry = 1000000
	checkMake(t, calendar.New(), r, api.Plan{}, api.ErrReserve)
	// A slot that is not there does not begin at 0.
	r.Entry = 0
	checkMake(t, calendar.New(), r, planOf(r, stage(1, 1, 1, 0, 2, 0)), api.OK)
	for tool := 1; tool < 3; tool++ {
		checkMake(t, made(t, b(tool, 0, 1000000, 9)), r, api.Plan{}, api.ErrReserve)
	}
	r = api.Request{Entry: 950002, MoveMax: 10000, Needs: []api.Need{need(1, 10000, 1, 2)}}
	for range 2 {
		start := r.Entry + 10000
		checkMake(t, calendar.New(), r, planOf(r, stage(1, 10000, 1, start, 2, start+19999)), api.OK)
		r.Entry += 9999
	}
	r.Entry = 960002
	checkMake(t, calendar.New(), r, api.Plan{}, api.ErrReserve)
	r.Entry, r.MoveMin = 1000000, 10000
	checkMake(t, calendar.New(), r, api.Plan{}, api.ErrReserve)
}

// P10.1: a stage begins when the stage before it is over in both of its slots; and the windows decide which plans are accepted.
func TestStages(t *testing.T) {
	checkMake(t, calendar.New(), double(100), doubled(100), api.OK)
	checkMake(t, calendar.New(), double(30), doubled(30), api.OK)
	checkMake(t, calendar.New(), double(29), api.Plan{}, api.ErrReserve)
	// With tool 1 first, the plan ends earlier, but the window must be longer.
	c := made(t, b(2, 100, 200, 9))
	checkMake(t, c, double(111), planOf(double(111), stage(10, 12, 1, 104, 2, 200), stage(6, 6, 3, 216, 4, 225)), api.OK)
	checkMake(t, c, double(110), planOf(double(110), stage(10, 12, 2, 200, 1, 215), stage(6, 6, 3, 231, 4, 240)), api.OK)
	checkMake(t, c, double(29), api.Plan{}, api.ErrReserve)
	// Stages may use the same tools, one directly after the other.
	r := api.Request{Needs: []api.Need{need(1, 1, 1, 2), need(1, 1, 1, 2), need(1, 3, 1, 2)}}
	checkMake(t, calendar.New(), r, planOf(r, stage(1, 1, 1, 0, 2, 0), stage(1, 1, 1, 1, 2, 1), stage(1, 3, 1, 2, 2, 4)), api.OK)
}

// P10.1: the largest request has a plan.
func TestLargest(t *testing.T) {
	r := largest()
	checkMake(t, calendar.New(), r, planOf(r,
		stage(4, 6, 0, 10, 10, 18), stage(5, 7, 1, 27, 11, 36), stage(6, 8, 2, 46, 12, 56), stage(7, 9, 3, 67, 13, 78)), api.OK)
	c := made(t, b(0, 0, 50, 1), b(11, 0, 90, 1), b(2, 0, 90, 1), b(12, 0, 90, 1))
	checkMake(t, c, r, planOf(r,
		stage(4, 6, 10, 10, 0, 50), stage(5, 7, 1, 59, 58, 68), stage(6, 8, 57, 78, 2, 90), stage(7, 9, 3, 101, 13, 112)), api.OK)
}

// P10.1, P10.4: of plans that end at the same time, that of the first choice is the best one.
func TestFirstChoice(t *testing.T) {
	r := single()
	r.Needs[0].Tools = []int{1, 2, 3}
	for _, x := range []struct {
		booked []api.Booking
		want   api.Stage
	}{
		{nil, stage(20, 30, 1, 10, 2, 49)},
		{[]api.Booking{b(2, 40, 60, 9)}, stage(20, 30, 1, 10, 3, 49)},
		{[]api.Booking{b(1, 0, 40, 9)}, stage(20, 30, 2, 10, 1, 49)},
		{[]api.Booking{b(1, 0, 60, 9)}, stage(20, 30, 2, 10, 3, 49)},
		{[]api.Booking{b(1, 0, 60, 9), b(2, 20, 30, 9)}, stage(20, 30, 3, 10, 2, 49)},
		{[]api.Booking{b(1, 0, 30, 9), b(2, 0, 30, 9)}, stage(20, 30, 3, 10, 1, 49)},
	} {
		checkMake(t, made(t, x.booked...), r, planOf(r, x.want), api.OK)
	}
	// The first choice has later slots in its first stage, but does not end later.
	r.Needs = []api.Need{need(20, 30, 1, 2), need(20, 30, 3, 4)}
	c := made(t, b(1, 0, 30, 9), b(3, 0, 1000, 9), b(4, 0, 1000, 9))
	checkMake(t, c, r, planOf(r, stage(20, 30, 1, 30, 2, 69), stage(20, 30, 3, 1000, 4, 1039)), api.OK)
	// It is the main tools of a need that decide, then its spare tools, then the next need.
	r.Needs = []api.Need{need(20, 30, 1, 2), need(20, 30, 3, 4)}
	c = made(t, b(3, 0, 1000, 9), b(4, 0, 1000, 9), b(3, 1001, 1100, 9))
	checkMake(t, c, r, planOf(r, stage(20, 30, 1, 10, 2, 49), stage(20, 30, 4, 1000, 3, 1100)), api.OK)
}

// P10.1: which requests are valid, on both sides of each bound.
func TestValid(t *testing.T) {
	for name, x := range map[string]struct {
		change func(r *api.Request)
		want   bool
	}{
		"as it is":            {func(r *api.Request) {}, true},
		"nothing":             {func(r *api.Request) { *r = api.Request{} }, false},
		"largest":             {func(r *api.Request) { *r = largest() }, true},
		"entry 0":             {func(r *api.Request) { r.Entry = 0 }, true},
		"entry -1":            {func(r *api.Request) { r.Entry = -1 }, false},
		"entry greatest":      {func(r *api.Request) { r.Entry = 1000000 }, true},
		"entry too great":     {func(r *api.Request) { r.Entry = 1000001 }, false},
		"move 0":              {func(r *api.Request) { r.MoveMin, r.MoveMax = 0, 0 }, true},
		"move -1":             {func(r *api.Request) { r.MoveMin = -1 }, false},
		"moves the same":      {func(r *api.Request) { r.MoveMin = 4 }, true},
		"moves descending":    {func(r *api.Request) { r.MoveMin = 5 }, false},
		"move greatest":       {func(r *api.Request) { r.MoveMax = 10000 }, true},
		"move too great":      {func(r *api.Request) { r.MoveMax = 10001 }, false},
		"no needs":            {func(r *api.Request) { r.Needs, r.Windows = nil, nil }, false},
		"one need":            {func(r *api.Request) { r.Needs, r.Windows = r.Needs[:1], nil }, true},
		"three needs":         {func(r *api.Request) { r.Needs = append(r.Needs, r.Needs[0]) }, true},
		"four needs":          {func(r *api.Request) { r.Needs = append(r.Needs, r.Needs...) }, true},
		"five needs":          {func(r *api.Request) { r.Needs = append(r.Needs, r.Needs[0], r.Needs[1], r.Needs[0]) }, false},
		"a million needs":     {func(r *api.Request) { r.Needs = slices.Repeat(r.Needs, 1000000) }, false},
		"no tools":            {func(r *api.Request) { r.Needs[1].Tools = nil }, false},
		"one tool":            {func(r *api.Request) { r.Needs[1].Tools = []int{1} }, false},
		"two tools":           {func(r *api.Request) { r.Needs[1].Tools = []int{0, 59} }, true},
		"three tools":         {func(r *api.Request) { r.Needs[0].Tools = []int{0, 30, 59} }, true},
		"four tools":          {func(r *api.Request) { r.Needs[0].Tools = []int{1, 2, 3, 4} }, false},
		"a million tools":     {func(r *api.Request) { r.Needs[0].Tools = make([]int, 1000000) }, false},
		"a tool twice":        {func(r *api.Request) { r.Needs[0].Tools = []int{1, 1} }, false},
		"first tools twice":   {func(r *api.Request) { r.Needs[0].Tools = []int{1, 1, 2} }, false},
		"last tools twice":    {func(r *api.Request) { r.Needs[0].Tools = []int{1, 2, 2} }, false},
		"tools descending":    {func(r *api.Request) { r.Needs[0].Tools = []int{2, 1} }, false},
		"tools not ascending": {func(r *api.Request) { r.Needs[0].Tools = []int{1, 3, 2} }, false},
		"tools from behind":   {func(r *api.Request) { r.Needs[0].Tools = []int{2, 1, 3} }, false},
		"tool -1":             {func(r *api.Request) { r.Needs[1].Tools = []int{-1, 2} }, false},
		"tool -1 of three":    {func(r *api.Request) { r.Needs[1].Tools = []int{-1, 2, 3} }, false},
		"tool 60":             {func(r *api.Request) { r.Needs[1].Tools = []int{1, 60} }, false},
		"tool 60 of three":    {func(r *api.Request) { r.Needs[1].Tools = []int{1, 2, 60} }, false},
		"shortest":            {func(r *api.Request) { r.Needs[1].Min = 1 }, true},
		"no duration":         {func(r *api.Request) { r.Needs[1].Min = 0 }, false},
		"negative duration":   {func(r *api.Request) { r.Needs[1].Min, r.Needs[1].Max = -2, -1 }, false},
		"one duration":        {func(r *api.Request) { r.Needs[0].Max = 10 }, true},
		"no durations":        {func(r *api.Request) { r.Needs[0].Max = 9 }, false},
		"longest":             {func(r *api.Request) { r.Needs[0].Max = 10000 }, true},
		"too long":            {func(r *api.Request) { r.Needs[0].Max = 10001 }, false},
		"no windows":          {func(r *api.Request) { r.Windows = nil }, true},
		"window from -1":      {func(r *api.Request) { r.Windows[0].From = -1 }, false},
		"window to itself":    {func(r *api.Request) { r.Windows[0].From = 1 }, false},
		"window to the first": {func(r *api.Request) { r.Windows[0].To = 0 }, false},
		"window backwards":    {func(r *api.Request) { r.Windows[0] = w(1, 0, 5) }, false},
		"window to nothing":   {func(r *api.Request) { r.Windows[0].To = 2 }, false},
		"window of 0":         {func(r *api.Request) { r.Windows[0].Limit = 0 }, true},
		"window of -1":        {func(r *api.Request) { r.Windows[0].Limit = -1 }, false},
		"window greatest":     {func(r *api.Request) { r.Windows[0].Limit = 1000000 }, true},
		"window too great":    {func(r *api.Request) { r.Windows[0].Limit = 1000001 }, false},
		"window twice":        {func(r *api.Request) { r.Windows = append(r.Windows, w(0, 1, 9)) }, false},
		"windows by to": {func(r *api.Request) {
			*r = largest()
			r.Windows[0], r.Windows[1] = r.Windows[1], r.Windows[0]
		}, false},
		"windows by from": {func(r *api.Request) {
			*r = largest()
			r.Windows[2], r.Windows[3] = r.Windows[3], r.Windows[2]
		}, false},
		"many windows":      {func(r *api.Request) { r.Windows = slices.Repeat(r.Windows, 21) }, false},
		"a million windows": {func(r *api.Request) { r.Windows = slices.Repeat(r.Windows, 1000000) }, false},
	} {
		r := double(50)
		x.change(&r)
		if reserve.Valid(r) != x.want || defValid(r) != x.want {
			t.Errorf("%s: %v", name, !x.want)
		}
		if !x.want {
			checkMake(t, calendar.New(), r, api.Plan{}, api.ErrReserve)
			checkRepair(t, made(t, plan.Bookings(doubled(50), 7)...), repair{doubled(50), r, 7, 0, 100, -1}, api.Plan{}, api.ErrReserve)
		}
	}
}

// P10.1: Valid, and the errors of Make and Repair, for extreme numbers.
func TestExtremes(t *testing.T) {
	c := made(t, plan.Bookings(doubled(50), 7)...)
	refused := 0
	for _, x := range extremes {
		some := double(50)
		for i := range requestNumbers(&some) {
			r := double(50)
			*requestNumbers(&r)[i] = x
			want := defValid(r)
			if reserve.Valid(r) != want {
				t.Errorf("Valid(%+v) = %v", r, !want)
			}
			if !want {
				refused++
				checkMake(t, c, r, api.Plan{}, api.ErrReserve)
				checkRepair(t, c, repair{doubled(50), r, 7, 0, 100, -1}, api.Plan{}, api.ErrReserve)
			}
		}
		somePlan := doubled(50)
		for i := range planNumbers(&somePlan) {
			p := clonePlan(doubled(50))
			*planNumbers(&p)[i] = x
			if !plan.Valid(p) {
				refused++
				checkBook(t, calendar.New(), p, 7, api.ErrReserve)
				checkRepair(t, c, repair{p, double(50), 7, 0, 100, -1}, api.Plan{}, api.ErrReserve)
			}
		}
		if x < 1 || x > 1000000 {
			checkBook(t, calendar.New(), doubled(50), x, api.ErrReserve)
			checkRepair(t, c, repair{doubled(50), double(50), x, 0, 100, -1}, api.Plan{}, api.ErrReserve)
		}
		if x < 0 || x > 1 {
			checkRepair(t, c, repair{doubled(50), double(50), 7, x, 100, -1}, api.Plan{}, api.ErrReserve)
		}
		if x < 0 || x >= 1000000 {
			checkRepair(t, c, repair{doubled(50), double(50), 7, 0, x, -1}, api.Plan{}, api.ErrReserve)
		}
	}
	if refused < 200 {
		t.Error("too few:", refused)
	}
}

// P10.1, P10.3: Book books all slots of a plan, or none if one of them is not free, whoever has booked it.
func TestBook(t *testing.T) {
	p := doubled(100)
	for _, owner := range []int{1, 7, 1000000} {
		c := made(t, b(3, 0, 100, 7))
		checkBook(t, c, p, owner, api.OK)
		checkBook(t, c, p, owner, api.ErrReserve)
		checkBook(t, c, p, 9, api.ErrReserve)
	}
	for _, owner := range []int{0, -1, 1000001, math.MinInt, math.MaxInt} {
		checkBook(t, calendar.New(), p, owner, api.ErrReserve)
	}
	checkBook(t, calendar.New(), api.Plan{}, 7, api.ErrReserve)
	for _, x := range plan.Bookings(p, 7) {
		for owner := 7; owner < 9; owner++ {
			for _, span := range [][2]int{{x.Start, x.Start + 1}, {x.End - 1, x.End}, {x.Start, x.End}, {0, x.Start + 1}, {x.End - 1, 1000000}, {0, 1000000}} {
				checkBook(t, made(t, b(x.Tool, span[0], span[1], owner)), p, 7, api.ErrReserve)
			}
			checkBook(t, made(t, b(x.Tool, 0, x.Start, owner), b(x.Tool, x.End, 1000000, owner)), p, 7, api.OK)
		}
	}
}

// P10.1, P10.3: Book takes every valid plan, safe or not, but none whose slots overlap one another.
func TestBookOverlap(t *testing.T) {
	late := doubled(29)
	late.Entry = 1000000
	checkBook(t, calendar.New(), late, 7, api.OK)
	for name, x := range map[string]struct {
		second api.Stage
		want   api.Errno
	}{
		"main slots":          {stage(6, 6, 1, 115, 4, 144), api.ErrReserve},
		"main slots touch":    {stage(6, 6, 1, 116, 4, 144), api.OK},
		"main slots reversed": {stage(6, 6, 1, 99, 4, 144), api.ErrReserve},
		"main slots at ease":  {stage(6, 6, 1, 98, 4, 144), api.OK},
		"main and spare slot": {stage(6, 6, 3, 135, 1, 115), api.ErrReserve},
		"they touch":          {stage(6, 6, 3, 135, 1, 116), api.OK},
		"spare and main slot": {stage(6, 6, 2, 130, 4, 144), api.ErrReserve},
		"these touch":         {stage(6, 6, 2, 131, 4, 144), api.OK},
		"spare slots":         {stage(6, 6, 3, 135, 2, 130), api.ErrReserve},
		"spare slots touch":   {stage(6, 6, 3, 135, 2, 131), api.OK},
	} {
		t.Log(name)
		p := doubled(100)
		p.Stages[1] = x.second
		checkBook(t, made(t, b(5, 0, 1000000, 7)), p, 7, x.want)
	}
}

// P10.1, P10.5: the bookings of the owner are removed, and the rest of the request is planned, without the tool that has failed; the other bookings count.
func TestRepair(t *testing.T) {
	p, r := doubled(100), double(100)
	booked := func(more ...api.Booking) *calendar.Calendar { return made(t, append(more, plan.Bookings(p, 7)...)...) }
	second := func(entry int, main int, mainStart int, spare int, spareStart int) api.Plan {
		return api.Plan{Entry: entry, MoveMin: 1, MoveMax: 4, Stages: []api.Stage{stage(6, 6, main, mainStart, spare, spareStart)}}
	}
	checkRepair(t, booked(), repair{p, r, 7, 1, 131, 3}, second(131, 4, 135, 5, 144), api.OK)
	checkRepair(t, booked(), repair{p, r, 7, 1, 131, 4}, second(131, 3, 135, 5, 144), api.OK)
	checkRepair(t, booked(), repair{p, r, 7, 1, 131, 5}, second(131, 3, 135, 4, 144), api.OK)
	for _, other := range []int{math.MinInt, -1, 0, 1, 2, 6, 59, 60, math.MaxInt} {
		checkRepair(t, booked(), repair{p, r, 7, 1, 131, other}, second(131, 3, 135, 4, 144), api.OK)
		if other != 1 && other != 2 {
			again := doubled(100)
			again.Entry = 100
			checkRepair(t, booked(), repair{p, r, 7, 0, 100, other}, again, api.OK)
		}
	}
	for failed := 1; failed < 3; failed++ {
		checkRepair(t, booked(), repair{p, r, 7, 0, 100, failed}, api.Plan{}, api.ErrReserve)
	}
	// What others have booked counts, what the owner has booked does not, wherever it is.
	checkRepair(t, booked(b(4, 135, 140, 8)), repair{p, r, 7, 1, 131, 3}, second(131, 5, 135, 4, 144), api.OK)
	checkRepair(t, booked(b(4, 130, 136, 8), b(5, 0, 1, 8)), repair{p, r, 7, 1, 131, 3}, second(131, 5, 135, 4, 144), api.OK)
	checkRepair(t, booked(b(5, 120, 160, 8)), repair{p, r, 7, 1, 131, 3}, second(131, 4, 135, 5, 160), api.OK)
	checkRepair(t, booked(b(4, 135, 140, 7), b(30, 0, 50, 7)), repair{p, r, 7, 1, 131, 3}, second(131, 4, 135, 5, 144), api.OK)
	checkRepair(t, booked(b(5, 0, 1000000, 8)), repair{p, r, 7, 1, 131, 3}, api.Plan{}, api.ErrReserve)
	checkRepair(t, booked(b(5, 0, 1000000, 7)), repair{p, r, 7, 1, 131, 3}, second(131, 4, 135, 5, 144), api.OK)
	// An owner who has booked nothing.
	checkRepair(t, booked(), repair{p, r, 1000000, 1, 131, 5}, second(131, 4, 135, 3, 144), api.OK)
	checkRepair(t, calendar.New(), repair{p, r, 1, 1, 131, 3}, second(131, 4, 135, 5, 144), api.OK)
}

// P10.1, P10.5: a window that is open is a deadline for both slots, which begins at the earliest end of its first stage.
func TestDeadline(t *testing.T) {
	c := made(t, plan.Bookings(doubled(100), 7)...)
	for name, x := range map[string]struct {
		change func(p *api.Plan, r *api.Request)
		entry  int // the last one
	}{
		// The spare slot begins 4 + 6 - 1 + 4 minutes behind the entry.
		"as it is":              {func(p *api.Plan, r *api.Request) {}, 104 + 10 + 100 - 13},
		"limit of the request":  {func(p *api.Plan, r *api.Request) { r.Windows[0].Limit = 90 }, 104 + 10 + 90 - 13},
		"limit of the plan":     {func(p *api.Plan, r *api.Request) { p.Windows[0].Limit = 90 }, 104 + 10 + 100 - 13},
		"windows of the plan":   {func(p *api.Plan, r *api.Request) { p.Windows = nil }, 104 + 10 + 100 - 13},
		"duration of the plan":  {func(p *api.Plan, r *api.Request) { p.Stages[0].Min = 11 }, 104 + 11 + 100 - 13},
		"greatest of the plan":  {func(p *api.Plan, r *api.Request) { p.Stages[0].Max = 15 }, 104 + 10 + 100 - 13},
		"duration of the need":  {func(p *api.Plan, r *api.Request) { r.Needs[0].Min, r.Needs[0].Max = 1, 99 }, 104 + 10 + 100 - 13},
		"main slot":             {func(p *api.Plan, r *api.Request) { p.Stages[0].Main.Start = 9 }, 9 + 10 + 100 - 13},
		"spare slot":            {func(p *api.Plan, r *api.Request) { p.Stages[0].Spare.Start = 200 }, 104 + 10 + 100 - 13},
		"second stage":          {func(p *api.Plan, r *api.Request) { p.Stages[1] = stage(1, 1, 8, 5000, 9, 0) }, 104 + 10 + 100 - 13},
		"entry of the plan":     {func(p *api.Plan, r *api.Request) { p.Entry, p.MoveMin, p.MoveMax = 3, 0, 10000 }, 104 + 10 + 100 - 13},
		"entry of the request":  {func(p *api.Plan, r *api.Request) { r.Entry = 1000000 }, 104 + 10 + 100 - 13},
		"moves of the request":  {func(p *api.Plan, r *api.Request) { r.MoveMin, r.MoveMax = 0, 0 }, 104 + 10 + 100 - 5},
		"longer second stage":   {func(p *api.Plan, r *api.Request) { r.Needs[1].Max = 16 }, 104 + 10 + 100 - 23},
		"longest window":        {func(p *api.Plan, r *api.Request) { r.Windows[0].Limit = 1000000 }, 1000000 - 6 - 13},
		"no window":             {func(p *api.Plan, r *api.Request) { r.Windows = nil }, 1000000 - 6 - 13},
		"no windows but a plan": {func(p *api.Plan, r *api.Request) { r.Windows, p.Windows[0].Limit = nil, 0 }, 1000000 - 6 - 13},
	} {
		t.Log(name)
		p, r := clonePlan(doubled(100)), double(100)
		x.change(&p, &r)
		main := x.entry + r.MoveMax
		want := api.Plan{Entry: x.entry, MoveMin: r.MoveMin, MoveMax: r.MoveMax, Stages: []api.Stage{
			stage(6, r.Needs[1].Max, 4, main, 5, main+r.Needs[1].Max-1+r.MoveMax),
		}}
		checkRepair(t, c.Clone(), repair{p, r, 7, 1, x.entry, 3}, want, api.OK)
		checkRepair(t, c.Clone(), repair{p, r, 7, 1, x.entry + 1, 3}, api.Plan{}, api.ErrReserve)
		// The spare slot is later even if the main slot could be much earlier.
		checkRepair(t, made(t, b(4, 0, 1000000, 8)), repair{p, r, 7, 1, x.entry - 100, 3}, api.Plan{}, api.ErrReserve)
	}
}

// P10.1: each need of the rest has a deadline of its own, the earliest one of its windows that are open; the other windows are those of the new plan.
func TestManyWindows(t *testing.T) {
	r := largest()
	p := planOf(r, stage(4, 6, 0, 10, 10, 18), stage(5, 7, 1, 27, 11, 36), stage(6, 8, 2, 46, 12, 56), stage(7, 9, 3, 67, 13, 78))
	again := planOf(r, stage(6, 8, 2, 46, 12, 56), stage(7, 9, 3, 67, 13, 78))
	again.Entry, again.Windows = 43, []api.Window{w(0, 1, 200)}
	// The limits of the windows 0-1, 0-2, 0-3, 1-2, 1-3, 2-3 that are just kept if two stages are done.
	least := []int{0, 42, 64, 24, 46, 26}
	for i := range least {
		x := repair{clonePlan(p), cloneRequest(r), 7, 2, 43, -1}
		for j, limit := range least {
			x.r.Windows[j].Limit = limit
		}
		want := clonePlan(again)
		want.Windows[0].Limit = 26
		checkRepair(t, made(t, plan.Bookings(p, 7)...), x, want, api.OK)
		if i == 0 {
			continue
		}
		x.r.Windows[i].Limit--
		checkRepair(t, made(t, plan.Bookings(p, 7)...), x, api.Plan{}, api.ErrReserve)
		// All other ones make no difference then.
		for j := range least {
			if j != i {
				x.r.Windows[j].Limit = 1000000
			}
		}
		checkRepair(t, made(t, plan.Bookings(p, 7)...), x, api.Plan{}, api.ErrReserve)
	}
	// All windows stay if nothing is done, and none does if only the last stage is to be done.
	checkRepair(t, made(t, plan.Bookings(p, 7)...), repair{p, r, 7, 0, 7, -1}, p, api.OK)
	last := api.Plan{Entry: 64, MoveMin: 1, MoveMax: 3, Stages: p.Stages[3:]}
	checkRepair(t, made(t, plan.Bookings(p, 7)...), repair{p, r, 7, 3, 64, 2}, last, api.OK)
	middle := planOf(r, stage(5, 7, 11, 27, 58, 36), stage(6, 8, 2, 46, 12, 56), stage(7, 9, 3, 67, 13, 78))
	middle.Entry, middle.Windows = 24, []api.Window{w(0, 1, 200), w(0, 2, 200), w(1, 2, 200)}
	checkRepair(t, made(t, plan.Bookings(p, 7)...), repair{p, r, 7, 1, 24, 1}, middle, api.OK)
}

// P10.1: with deadlines, the first choice is not the best one if it is too late for them, even if it ends at the same time.
func TestChoiceWithDeadline(t *testing.T) {
	r := api.Request{MoveMin: 1, MoveMax: 1, Needs: []api.Need{need(5, 5, 1, 2), need(10, 10, 3, 4), need(10, 10, 5, 6)}, Windows: []api.Window{w(0, 1, 100)}}
	p := planOf(r, stage(5, 5, 1, 1, 2, 6), stage(10, 10, 3, 12, 4, 22), stage(10, 10, 5, 33, 6, 43))
	checkMake(t, calendar.New(), r, p, api.OK)
	c := made(t, b(3, 0, 60, 9), b(5, 0, 500, 9), b(6, 0, 500, 9))
	third := stage(10, 10, 5, 500, 6, 510)
	// Tool 3 first begins at 60 and 70, tool 4 first at 12 and 60.
	for _, x := range []struct {
		limit int
		want  []api.Stage
	}{
		{100, []api.Stage{stage(10, 10, 3, 60, 4, 70), third}},
		{64, []api.Stage{stage(10, 10, 3, 60, 4, 70), third}},
		{63, []api.Stage{stage(10, 10, 4, 12, 3, 60), third}},
		{54, []api.Stage{stage(10, 10, 4, 12, 3, 60), third}},
		{53, nil},
	} {
		r.Windows[0].Limit = x.limit
		if x.want == nil {
			checkRepair(t, c.Clone(), repair{p, r, 7, 1, 11, -1}, api.Plan{}, api.ErrReserve)
			continue
		}
		checkRepair(t, c.Clone(), repair{p, r, 7, 1, 11, -1}, api.Plan{Entry: 11, MoveMin: 1, MoveMax: 1, Stages: x.want}, api.OK)
	}
}

// P10.1: what Repair refuses, without changing the calendar.
func TestRepairErrors(t *testing.T) {
	for name, change := range map[string]func(x *repair){
		"owner 0":           func(x *repair) { x.owner = 0 },
		"owner too great":   func(x *repair) { x.owner = 1000001 },
		"done -1":           func(x *repair) { x.done = -1 },
		"all done":          func(x *repair) { x.done = 2 },
		"entry -1":          func(x *repair) { x.entry = -1 },
		"entry too great":   func(x *repair) { x.entry = 1000001 },
		"no plan":           func(x *repair) { x.p = api.Plan{} },
		"plan not valid":    func(x *repair) { x.p.Stages[1].Min = 7 },
		"shorter plan":      func(x *repair) { x.p.Stages, x.p.Windows = x.p.Stages[:1], nil },
		"longer plan":       func(x *repair) { x.p.Stages = append(x.p.Stages, stage(1, 1, 1, 900, 2, 900)) },
		"no request":        func(x *repair) { x.r = api.Request{} },
		"request not valid": func(x *repair) { x.r.MoveMin = 5 },
		"shorter request":   func(x *repair) { x.r.Needs, x.r.Windows = x.r.Needs[:1], nil },
		"longer request":    func(x *repair) { x.r.Needs = append(x.r.Needs, x.r.Needs[0]) },
		"no tools are left": func(x *repair) { x.r.Needs[1].Tools = []int{3, 4} },
		"no tools at first": func(x *repair) { x.done, x.entry, x.failed = 0, 100, 2 },
		"none at the end":   func(x *repair) { x.done, x.r.Needs[1].Tools, x.failed = 0, []int{3, 59}, 59 },
		"windows too short": func(x *repair) { x.done, x.entry, x.r.Windows[0].Limit = 0, 100, 29 },
		"too late":          func(x *repair) { x.entry = 202 },
	} {
		t.Log(name)
		x := repair{clonePlan(doubled(100)), double(100), 7, 1, 131, 3}
		good := api.Plan{Entry: 131, MoveMin: 1, MoveMax: 4, Stages: []api.Stage{stage(6, 6, 4, 135, 5, 144)}}
		c := made(t, append(plan.Bookings(x.p, 7), b(4, 300, 400, 8))...)
		bad := x
		bad.p, bad.r = clonePlan(x.p), cloneRequest(x.r)
		change(&bad)
		checkRepair(t, c, bad, api.Plan{}, api.ErrReserve)
		checkRepair(t, c, x, good, api.OK)
	}
	// The plan may belong to another request, and need not be safe.
	x := repair{doubled(100), double(100), 7, 1, 131, 3}
	x.p.Entry, x.p.MoveMin, x.p.Windows = 1000000, 0, []api.Window{w(0, 1, 0)}
	x.p.Stages[1] = stage(99, 100, 50, 1, 51, 2)
	checkRepair(t, calendar.New(), x, api.Plan{Entry: 131, MoveMin: 1, MoveMax: 4, Stages: []api.Stage{stage(6, 6, 4, 135, 5, 144)}}, api.OK)
}

// P10.1: a nil calendar, and one that no call has returned, whatever the other arguments are.
func TestNil(t *testing.T) {
	for _, c := range []*calendar.Calendar{nil, new(calendar.Calendar)} {
		for _, r := range []api.Request{single(), double(100), double(1), {}} {
			if p, err := reserve.Make(c, r); !plan.Same(p, api.Plan{}) || err != api.ErrNil {
				t.Error("Make", p, err)
			}
		}
		for _, x := range []repair{{}, {doubled(100), double(100), 7, 1, 131, 3}, {doubled(100), double(100), 0, 9, -1, 3}} {
			if err := reserve.Book(c, x.p, x.owner); err != api.ErrNil {
				t.Error("Book", err)
			}
			if p, err := x.of(c); !plan.Same(p, api.Plan{}) || err != api.ErrNil {
				t.Error("Repair", p, err)
			}
		}
	}
}

// P10.1: arguments are not modified, nor their spare capacity; results share no memory with them, nor with one another, and do not depend on earlier calls.
func TestMemory(t *testing.T) {
	x := repair{clonePlan(doubled(100)), cloneRequest(double(100)), 7, 0, 100, 5}
	x.p.Stages = append(x.p.Stages, stage(7, 7, 7, 7, 7, 7))[:2]
	x.p.Windows = append(x.p.Windows, w(7, 7, 7))[:1]
	x.r.Windows = append(x.r.Windows, w(7, 7, 7))[:1]
	x.r.Needs = append(x.r.Needs, need(7, 7, 7))[:2]
	for i := range x.r.Needs {
		x.r.Needs[i].Tools = append(x.r.Needs[i].Tools, 7)[:2+i]
	}
	state := func() any {
		r := cloneRequest(x.r)
		r.Needs, r.Windows = slices.Clone(x.r.Needs[:3]), slices.Clone(x.r.Windows[:2])
		for i, n := range r.Needs[:2] {
			r.Needs[i].Tools = slices.Clone(n.Tools[:3+i])
		}
		return []any{r, slices.Clone(x.p.Stages[:3]), slices.Clone(x.p.Windows[:2])}
	}
	before := state()
	c := calendar.New()
	var results []api.Plan
	for range 2 {
		p, _ := reserve.Make(c, x.r)
		q, _ := x.of(c)
		x.done = 1
		s, _ := x.of(c)
		x.done = 0
		c.Free(7)
		reserve.Book(c, x.p, 8)
		reserve.Book(c, x.p, 8)
		c.Free(8)
		results = append(results, p, q, s)
	}
	if !reflect.DeepEqual(state(), before) {
		t.Error("an argument has changed")
	}
	for i, p := range results {
		want := doubled(100)
		if i%3 == 2 {
			want = planOf(double(100), stage(6, 6, 3, 104, 4, 113))
			want.Windows = nil
		}
		if !plan.Same(p, want) {
			t.Fatalf("result %d: %+v", i, p)
		}
		clear(p.Stages[:cap(p.Stages)])
		clear(p.Windows[:cap(p.Windows)])
	}
	if !reflect.DeepEqual(state(), before) {
		t.Error("an argument shares memory with a result")
	}
	checkMake(t, c, double(100), doubled(100), api.OK)
	checkBookings(t, c)
}

// randomRepair returns arguments of Repair for a plan and its request, most of them such that something is to be repaired.
func (r chooser) randomRepair(p api.Plan, x api.Request) repair {
	y := repair{clonePlan(p), cloneRequest(x), r.owner(), r.Intn(len(x.Needs)), 0, -1}
	next := p.Stages[y.done]
	y.entry = max(next.Main.Start-p.MoveMax+[]int{0, 0, -3, 4, 9}[r.Intn(5)], 0)
	if r.Intn(3) > 0 {
		y.failed = next.Main.Tool
	}
	switch r.Intn(20) {
	case 0:
		r.spoil(planNumbers(&y.p))
	case 1:
		r.spoil(requestNumbers(&y.r))
	case 2:
		r.spoil([]*int{&y.owner, &y.done, &y.entry, &y.failed})
	}
	return y
}

// P10.1: random sequences of calls have the results that the chapter defines, and the same effects.
func TestSequences(t *testing.T) {
	found := map[string]int{}
	count := func(name string, err api.Errno) {
		if err != api.OK {
			name += " refused"
		}
		found[name]++
	}
	for seed := range 300 {
		r := newChooser(seed)
		c := r.calendar(25)
		d := c.Clone()
		for range 8 {
			x := r.request(3)
			if r.Intn(12) == 0 {
				r.spoil(requestNumbers(&x))
			}
			p, err := defMake(d, x)
			checkMake(t, c, x, p, err)
			count("Make", err)
			if err != api.OK {
				continue
			}
			q := clonePlan(p)
			if r.Intn(5) == 0 {
				r.spoil(planNumbers(&q))
			}
			owner := r.owner()
			err = defBook(d, q, owner)
			count("Book", err)
			if e := reserve.Book(c, q, owner); e != err {
				t.Fatalf("Book(%+v, %d) = %d, not %d", q, owner, e, err)
			}
			checkBookings(t, c, bookings(d)...)
			for range 3 {
				y := r.randomRepair(p, x)
				if r.Intn(2) == 0 {
					y.owner = owner
				}
				want, err := defRepair(d, y.p, y.r, y.owner, y.done, y.entry, y.failed)
				count("Repair", err)
				if z, e := y.of(c); !plan.Same(z, want) || e != err {
					t.Fatalf("Repair(%+v) = %+v, %d, not %+v, %d", y, z, e, want, err)
				}
				checkBookings(t, c, bookings(d)...)
			}
		}
	}
	for _, name := range []string{"Make", "Make refused", "Book", "Book refused", "Repair", "Repair refused"} {
		if found[name] < 100 {
			t.Error("too few of one kind:", found)
		}
	}
	t.Log(found)
}

// P10.1: random requests of four needs.
func TestFourNeeds(t *testing.T) {
	found := 0
	for seed := range 60 {
		r := newChooser(seed)
		x := r.request(4)
		for len(x.Needs) < 4 {
			x.Needs = append(x.Needs, r.need())
		}
		c := r.calendar(25)
		p, err := defMake(c, x)
		checkMake(t, c, x, p, err)
		if err == api.OK {
			found++
		}
	}
	if found < 10 || found > 50 {
		t.Error("too few, or too many:", found)
	}
}
