package pool

import "quinella/api"

// till is a valid book before the race, with what has come in.
type till struct {
	book
	heir   int             // the favourite, to which bets on scratched runners can go
	before api.PoolAccount // the account as far as it does not depend on the finish
}

// payout is a till after the race.
type payout struct {
	till
	backed map[spot]int64 // the units of the winners that are backed
}

// tillOf returns the till of a book, or the error of it.
func tillOf(b api.PoolBook) (till, api.Errno) {
	if e := CheckBook(b); e != api.OK {
		return till{}, e
	}
	t := till{book: book{b}}
	t.heir = t.favourite()
	t.before = t.income()
	return t, api.OK
}

// tillAt returns the till of a book and a finish of it, or the error of one of them.
func tillAt(b api.PoolBook, finish [][]int) (till, api.Errno) {
	t, e := tillOf(b)
	if e != api.OK {
		return till{}, e
	}
	if !t.isFinish(finish) {
		return till{}, api.ErrHeat
	}
	return t, api.OK
}

// on returns the spot that a bet is on; ok is false if it is given back. Only bets on one runner can go to the favourite.
func (t till) on(bet api.PoolBet) (s spot, ok bool) {
	s, ok = t.named(bet)
	if !ok && t.Favourite && bet.Second == alone {
		s, ok = spot{t.heir, alone}, true
	}
	return s, ok
}

// income returns what came in, what is given back, and the duty.
func (t till) income() api.PoolAccount {
	var units, back int64
	for _, bet := range t.Bets {
		units += bet.Units
		if _, ok := t.on(bet); !ok {
			back += bet.Units
		}
	}
	return api.PoolAccount{
		In:   units*api.PoolUnit + t.Carried,
		Back: back * api.PoolUnit,
		Duty: (units - back) * api.PoolUnit * t.Duty / 1000,
	}
}

// net returns what can be paid.
func (t till) net() int64 { return t.before.In - t.before.Back - t.before.Duty }

// paysNothing reports whether no finish has a winner that is backed.
func (t till) paysNothing() bool { return t.count(t.on) == tally{} }

// payout returns the payout of a finish.
func (t till) payout(finish [][]int) payout {
	units := map[spot]int64{}
	for winner := range t.winners(finish) {
		units[winner] = 0
	}
	for _, bet := range t.Bets {
		s, ok := t.on(bet)
		if _, wins := units[s]; ok && wins {
			units[s] += bet.Units
		}
	}
	for winner := range t.winners(finish) {
		if units[winner] == 0 {
			delete(units, winner)
		}
	}
	return payout{till: t, backed: units}
}

// dividend returns the dividend of a spot, which is 0 if it is no winner that is backed.
func (p payout) dividend(s spot) int64 {
	units, ok := p.backed[s]
	if !ok {
		return 0
	}
	share := p.net() / int64(len(p.backed))
	return share / (units * p.Step) * p.Step
}

// account returns the account.
func (p payout) account() api.PoolAccount {
	a := p.before
	if len(p.backed) == 0 {
		a.Over = p.net()
		return a
	}
	for s, units := range p.backed {
		a.Paid += p.dividend(s) * units
	}
	a.Kept = p.net() - a.Paid
	return a
}

// pay returns what is paid for a bet, or given back.
func (p payout) pay(bet api.PoolBet) int64 {
	s, ok := p.on(bet)
	if !ok {
		return api.PoolUnit * bet.Units
	}
	return p.dividend(s) * bet.Units
}
