package relay

import (
	"math/rand"
	"runtime"
	"slices"
	"strings"
	"sync"
	"testing"
	"time"

	"compact/api"
)

// plain is a receiver told as plainly as can be, of what right messages do; parts is what it waits for, empty where it lacks.
type plain struct {
	has   []string
	block []string
	parts []string
}

// sent is a block that is sent shortly, and the places of what is sent along.
type sent struct {
	txs   []string
	along []int
}

func (s sent) message() string { return shortOf(headerOf(s.txs...), someNumber, s.txs, s.along) }

func (p *plain) add(tx string) api.Errno {
	if slices.Contains(p.has, tx) {
		return api.ErrHas
	}
	if len(p.has) == 20 {
		return api.ErrFull
	}
	p.has = append(p.has, tx)
	return api.OK
}

func (p *plain) drop(tx string) bool {
	place := slices.Index(p.has, tx)
	if place >= 0 {
		p.has = slices.Delete(p.has, place, place+1)
	}
	return place >= 0
}

func (p *plain) compact(s sent) api.Answer {
	p.block, p.parts = s.txs, slices.Clone(s.txs)
	var lacks []int
	for place, tx := range s.txs {
		if !slices.Contains(s.along, place) && !slices.Contains(p.has, tx) {
			p.parts[place] = ""
			lacks = append(lacks, place)
		}
	}
	if len(lacks) == 0 {
		p.parts = nil
		return done(sealed(s.txs...))
	}
	return waits(asking(twice(headerOf(s.txs...)), lacks...))
}

func (p *plain) reply(name string, txs []string) (api.Answer, api.Errno) {
	if p.parts == nil {
		return api.Answer{}, api.ErrState
	}
	if name != twice(headerOf(p.block...)) {
		return api.Answer{}, api.ErrBlock
	}
	count := 0
	for _, tx := range p.parts {
		if tx == "" {
			count++
		}
	}
	if count != len(txs) {
		return api.Answer{}, api.ErrCount
	}
	for place, tx := range p.parts {
		if tx == "" {
			p.parts[place], txs = txs[0], txs[1:]
		}
	}
	right := slices.Equal(p.parts, p.block)
	p.parts = nil
	if !right {
		return falls(), api.OK
	}
	return done(sealed(p.block...)), api.OK
}

// pair is a receiver, and the plain one that is told the same.
type pair struct {
	real  *Receiver
	plain plain
}

// step does one thing of many with both; it tells false if they answer other things.
func (p *pair) step(dice *rand.Rand, txs []string, blocks []sent) bool {
	tx, s := txs[dice.Intn(len(txs))], blocks[dice.Intn(len(blocks))]
	switch dice.Intn(8) {
	case 0, 1:
		return p.real.Add(tx) == p.plain.add(tx)
	case 2:
		return p.real.Drop(twice(tx)) == p.plain.drop(tx)
	case 3:
		p.plain.parts = nil
		answer, err := p.real.Compact(s.message() + "x")
		return answer == api.Answer{} && err == api.ErrRest
	case 4, 5:
		answer, err := p.real.Compact(s.message())
		return answer == p.plain.compact(s) && err == api.OK
	}
	if dice.Intn(2) == 0 && p.plain.parts != nil {
		s.txs = p.plain.block
	}
	var lacks []string
	for place, tx := range s.txs {
		if place >= len(p.plain.parts) || p.plain.parts[place] == "" || dice.Intn(12) == 0 {
			lacks = append(lacks, tx)
		}
	}
	if dice.Intn(8) == 0 {
		slices.Reverse(lacks)
	}
	if len(lacks) == 0 {
		lacks = s.txs
	}
	name := twice(headerOf(s.txs...))
	want, fault := p.plain.reply(name, lacks)
	answer, err := p.real.Reply(replying(name, lacks...))
	return answer == want && err == fault
}

// someBlocks, made of these transactions, none of which stands twice in one.
func someBlocks(dice *rand.Rand, txs []string) []sent {
	var blocks []sent
	for range 12 {
		list := slices.Clone(txs)
		dice.Shuffle(len(list), func(i, j int) { list[i], list[j] = list[j], list[i] })
		list = list[:1+dice.Intn(api.MaxTxs)]
		_, along := members(dice.Intn(1<<16)&dice.Intn(1<<16), list)
		blocks = append(blocks, sent{list, along})
	}
	return blocks
}

// P6, P7, P8: many things one behind the other, with several receivers in turn.
func TestReceiversAgainstPlainOnes(t *testing.T) {
	txs := several(26)
	for seed := range int64(20) {
		dice := rand.New(rand.NewSource(seed))
		blocks := someBlocks(dice, txs)
		pairs := []*pair{{real: NewReceiver()}, {real: NewReceiver()}, {real: NewReceiver()}}
		for n := range 400 {
			p := pairs[dice.Intn(len(pairs))]
			if !p.step(dice, txs, blocks) {
				t.Fatalf("of the seed %d the step %d is another than the plain receiver's", seed, n)
			}
			wantIDs(t, "against the plain one", p.real, p.plain.has...)
		}
	}
}

// P1: receivers that are in use at the same time answer as each of them alone.
func TestReceiversAtTheSameTime(t *testing.T) {
	txs := several(26)
	var all sync.WaitGroup
	for seed := range int64(16) {
		all.Go(func() {
			dice := rand.New(rand.NewSource(seed))
			blocks, p := someBlocks(dice, txs), pair{real: NewReceiver()}
			for n := range 200 {
				if !p.step(dice, txs, blocks) {
					t.Errorf("P1: of the seed %d the step %d is another than the plain receiver's", seed, n)
					return
				}
			}
		})
	}
	all.Wait()
}

// P1: no worker is left behind by a call, whatever it answers.
func TestCompactLeavesNoWorkers(t *testing.T) {
	txs := several(6)
	r := receiverOf(t, several(api.MaxPool)...)
	before := runtime.NumGoroutine()
	for range 200 {
		r.Compact(shortOf(headerOf(txs...), someNumber, txs, []int{0}))
		r.Compact(shortOf(header(), someNumber, txs, []int{0}))
		r.Compact(headAndNumber() + shortIDs(16) + "\x00")
		r.Compact(strings.Repeat("x", 90))
	}
	for end := time.Now().Add(5 * time.Second); runtime.NumGoroutine() > before; runtime.Gosched() {
		if time.Now().After(end) {
			t.Fatalf("P1: %d goroutines ahead, %d behind", before, runtime.NumGoroutine())
		}
	}
}
