package tests

import (
	"slices"
	"strings"
	"testing"

	"loop.example/g00456/impl"
)

// Promise 1, of the calls of chapter 6.

var guardBlock = impl.Block{Ver: -77, Mbal: -77, Bal: -77, Inp: -77}

// roomyBlocks is a list with guards behind its end, where a careless append would write.
func roomyBlocks(list []impl.Block) []impl.Block {
	out := append(slices.Clone(list), guardBlock, guardBlock, guardBlock)
	return out[:len(list)]
}

func untouchedBlocks(list, was []impl.Block) bool {
	behind := list[len(list) : len(list)+3]
	return slices.Equal(list, was) && !slices.ContainsFunc(behind, func(b impl.Block) bool { return b != guardBlock })
}

func scribbleBlocks(list []impl.Block) {
	for i := range list[:cap(list)] {
		list[:cap(list)][i] = impl.Block{Ver: -9, Mbal: -9, Bal: -9, Inp: -9}
	}
}

// ballotAnswer is what any call of chapter 6 answers; what a call has not stays zero.
type ballotAnswer struct {
	text         string
	number, code int
	try          impl.Px
	block        impl.Block
	blocks       []impl.Block
	list         []int
}

func sameBallotAnswer(a, b ballotAnswer) bool {
	return a.text == b.text && a.number == b.number && a.code == b.code && a.try == b.try && a.block == b.block &&
		slices.Equal(a.blocks, b.blocks) && slices.Equal(a.list, b.list)
}

func cloneBallotAnswer(a ballotAnswer) ballotAnswer {
	a.text, a.blocks, a.list = strings.Clone(a.text), slices.Clone(a.blocks), slices.Clone(a.list)
	return a
}

func scribbleBallotAnswer(a ballotAnswer) {
	scribbleBlocks(a.blocks)
	scribbleInts(a.list)
}

// ballotCall is a call on blocks, or on values and a schedule; it uses what it has use for.
type ballotCall struct {
	name             string
	blocks           []impl.Block
	values, schedule []int
	run              func(blocks []impl.Block, values, schedule []int) ballotAnswer
}

func (c ballotCall) plain() ballotAnswer {
	return c.run(c.blocks, c.values, c.schedule)
}

// anyBlockLists are right ones and wrong ones.
func anyBlockLists() [][]impl.Block {
	out := [][]impl.Block{
		nil, {}, make([]impl.Block, 3), make([]impl.Block, 4), make([]impl.Block, 5), make([]impl.Block, impl.MaxList), make([]impl.Block, impl.MaxList+1),
		{{Ver: 5, Mbal: 8}, {Ver: 5, Mbal: 9}, {Ver: 5, Mbal: 6, Bal: 6, Inp: 60}, {Ver: 5}},
		{{Ver: 4, Mbal: 1000000}, {Ver: 4, Mbal: 9, Bal: 9, Inp: 3}, {Ver: 6}, {Ver: 5, Mbal: 7}},
		{{Ver: 1000000, Mbal: 1000000, Bal: 1000000, Inp: mostNumber}, {}, {}, {}},
	}
	for place := range 4 {
		list := make([]impl.Block, 4)
		list[place] = impl.Block{Mbal: 9, Inp: 1}
		out = append(out, list)
	}
	return out
}

func anyTries() []impl.Px {
	var out []impl.Px
	for _, ver := range []int{0, 5} {
		for phase := 0; phase <= 7; phase++ {
			for next := -1; next <= 5; next++ {
				for host := range 4 {
					out = append(out, impl.Px{Host: host, Ver: ver, Phase: phase, Ballot: 8 + host, Value: 70, Next: next, Best: 50, BestBal: 5})
				}
			}
		}
	}
	return append(out, wrongTries()...)
}

func stepCalls() []ballotCall {
	var out []ballotCall
	for _, blocks := range anyBlockLists() {
		for _, p := range anyTries() {
			out = append(out, ballotCall{name: "PxStep", blocks: blocks, run: func(blocks []impl.Block, _, _ []int) (a ballotAnswer) {
				a.try, a.blocks, a.code = impl.PxStep(p, blocks)
				return a
			}})
		}
		for _, host := range anyHosts() {
			for _, ver := range []int{0, 5, 1000000, -1, 1000001, least, greatest} {
				out = append(out, ballotCall{name: "NextBallot", blocks: blocks, run: func(blocks []impl.Block, _, _ []int) (a ballotAnswer) {
					a.number, a.code = impl.NextBallot(host, ver, blocks)
					return a
				}})
			}
		}
	}
	return out
}

func runCalls() []ballotCall {
	var out []ballotCall
	lists := append(valueLists(), nil, []int{}, []int{1, 2, 3}, []int{1, 2, 3, 4, 5}, []int{1, -1, 2, 3}, make([]int, impl.MaxList), make([]int, impl.MaxList+1))
	schedules := [][]int{nil, {}, {2}, repeated(3, 8), {0, 1, 0, 0, 1, 2, 3, 0, 1, 1, 1, 1, 1, 1, 1, 1, 1}, {4}, {0, -1}, repeated(1, impl.MaxList), repeated(1, impl.MaxList+1)}
	for _, values := range lists {
		for _, schedule := range schedules {
			out = append(out, ballotCall{name: "RunPaxos", values: values, schedule: schedule, run: func(_ []impl.Block, values, schedule []int) (a ballotAnswer) {
				a.list, a.blocks, a.code = impl.RunPaxos(values, schedule)
				return a
			}})
		}
	}
	return out
}

// plainCalls have no list among their arguments.
func plainCalls() []ballotCall {
	var out []ballotCall
	add := func(name string, run func() ballotAnswer) {
		out = append(out, ballotCall{name: name, run: func(_ []impl.Block, _, _ []int) ballotAnswer { return run() }})
	}
	for _, b := range append(edgeBlocks(), wrongBlocks()...) {
		add("BlockOK", func() ballotAnswer { return ballotAnswer{number: numberOf(impl.BlockOK(b))} })
		add("EncodeBlock", func() (a ballotAnswer) { a.text, a.code = impl.EncodeBlock(b); return a })
	}
	for _, text := range append(anyTexts(), append(noBlockTexts(), blockText(impl.Block{Ver: 1, Mbal: 9, Bal: 5, Inp: 7}))...) {
		add("DecodeBlock", func() (a ballotAnswer) { a.block, a.code = impl.DecodeBlock(text); return a })
	}
	for _, p := range append(edgeTries(), anyTries()...) {
		add("PxOK", func() ballotAnswer { return ballotAnswer{number: numberOf(impl.PxOK(p))} })
		add("PxStart", func() (a ballotAnswer) { a.try, a.code = impl.PxStart(p.Host, p.Ver, p.Ballot, p.Value); return a })
	}
	return out
}

func ballotCalls() []ballotCall {
	return slices.Concat(stepCalls(), runCalls(), plainCalls())
}

func TestP1BallotsLeaveArgumentsAsTheyAre(t *testing.T) {
	for _, c := range ballotCalls() {
		blocks, values, schedule := roomyBlocks(c.blocks), roomyInts(c.values), roomyInts(c.schedule)
		c.run(blocks, values, schedule)
		if !untouchedBlocks(blocks, c.blocks) || !untouchedInts(values, c.values) || !untouchedInts(schedule, c.schedule) {
			t.Fatal("an argument was changed, or what stands behind its end:", c.name)
		}
	}
}

func TestP1BallotsShareNoMemoryWithArguments(t *testing.T) {
	for _, c := range ballotCalls() {
		blocks, values, schedule := roomyBlocks(c.blocks), roomyInts(c.values), roomyInts(c.schedule)
		got := c.run(blocks, values, schedule)
		want := cloneBallotAnswer(got)
		scribbleBallotAnswer(got)
		if !untouchedBlocks(blocks, c.blocks) || !untouchedInts(values, c.values) || !untouchedInts(schedule, c.schedule) {
			t.Fatal("writing into the answer changed an argument:", c.name)
		}
		got = c.run(blocks, values, schedule)
		scribbleBlocks(blocks)
		scribbleInts(values)
		scribbleInts(schedule)
		if !sameBallotAnswer(got, want) {
			t.Fatal("writing into an argument changed the answer:", c.name)
		}
	}
}

func TestP1BallotsHaveAlikeAnswersInNewMemory(t *testing.T) {
	busy := func() {
		impl.RunPaxos([]int{1, 2, 3, 4}, []int{3, 2, 1, 0, 3, 3})
		impl.PxStep(impl.Px{Host: 1, Phase: 3, Ballot: 9}, []impl.Block{{}, {Mbal: 9}, {}, {}})
		impl.NextBallot(2, 0, make([]impl.Block, 4))
		impl.DecodeBlock("no block")
	}
	for _, c := range ballotCalls() {
		first := c.plain()
		busy()
		second := c.run(roomyBlocks(c.blocks), roomyInts(c.values), roomyInts(c.schedule))
		want := cloneBallotAnswer(second)
		if !sameBallotAnswer(first, second) {
			t.Fatal("another answer to alike arguments:", c.name)
		}
		scribbleBallotAnswer(first)
		if !sameBallotAnswer(second, want) || !sameBallotAnswer(c.plain(), want) {
			t.Fatal("two answers share memory:", c.name)
		}
	}
}

func TestP1BallotsHoldNilAndEmptyForTheSame(t *testing.T) {
	for _, c := range ballotCalls() {
		blocks, values, schedule := c.blocks, c.values, c.schedule
		if len(blocks) == 0 {
			blocks = []impl.Block{}
		}
		if len(values) == 0 {
			values = []int{}
		}
		if len(schedule) == 0 {
			schedule = []int{}
		}
		if !sameBallotAnswer(c.run(slices.Clip(blocks), values, schedule), c.plain()) {
			t.Fatal("nil and an empty list are told apart:", c.name)
		}
	}
}

// A step of a ballot that has ended answers what it was given; with every other code all else is zero.
func TestP1BallotsWithACodeAllElseIsZero(t *testing.T) {
	met := map[string]map[int]int{}
	for _, c := range ballotCalls() {
		a := c.plain()
		if met[c.name] == nil {
			met[c.name] = map[int]int{}
		}
		met[c.name][a.code]++
		switch {
		case a.code == impl.OK:
		case c.name == "PxStep" && a.code == impl.ErrClosed:
			if !slices.Equal(a.blocks, c.blocks) || a.try.Phase < impl.PxDone {
				t.Fatal("not as it was:", a)
			}
		case !sameBallotAnswer(a, ballotAnswer{code: a.code}):
			t.Fatal("not zero with a code:", c.name, a)
		}
	}
	for name, want := range map[string][]int{
		"BlockOK":     {impl.OK},
		"EncodeBlock": {impl.OK, impl.ErrBad},
		"DecodeBlock": {impl.OK, impl.ErrForm, impl.ErrLong},
		"PxOK":        {impl.OK},
		"PxStart":     {impl.OK, impl.ErrRange},
		"PxStep":      {impl.OK, impl.ErrBad, impl.ErrLong, impl.ErrClosed},
		"NextBallot":  {impl.OK, impl.ErrBad, impl.ErrLong, impl.ErrRange, impl.ErrMany},
		"RunPaxos":    {impl.OK, impl.ErrBad, impl.ErrLong, impl.ErrRange},
	} {
		for _, code := range want {
			if met[name][code] == 0 {
				t.Error(name, "never answered", code)
			}
		}
		if len(met[name]) != len(want) {
			t.Error(name, "answered other codes:", met[name])
		}
	}
}
