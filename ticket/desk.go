package ticket

import "slices"

const unpaid = -1

// desk pays claims.
type desk struct {
	choice  [][]int64 // of each claim, numbers of codes with which it can be paid
	payment []int64
	asked   []bool // the claims that were asked for another code
}

// pay returns a desk that has paid as many claims as can be.
func (b book) pay(claims tickets) desk {
	p := desk{payment: slices.Repeat([]int64{unpaid}, len(claims)), asked: make([]bool, len(claims))}
	for _, torn := range claims {
		p.choice = append(p.choice, b.choice(torn, len(claims)))
	}
	for claim := range claims {
		clear(p.asked)
		p.ask(claim)
	}
	return p
}

// choice returns the first codes that fit and were sold. As many of them as there are claims are enough: the other claims cannot take all of these.
func (b book) choice(torn []int, claims int) []int64 {
	var codes []int64
	for code := range b.soldOf(machineOf(b.TicketDay, tickets{torn}.with)) {
		codes = append(codes, code)
		if len(codes) == claims {
			break
		}
	}
	return codes
}

// ask pays a claim with a code that it has not yet, if one is free or the claim that has it can do with another one.
func (p desk) ask(claim int) bool {
	if p.asked[claim] {
		return false
	}
	p.asked[claim] = true
	for _, code := range p.choice[claim] {
		holder := slices.Index(p.payment, code)
		if holder < 0 || p.ask(holder) {
			p.payment[claim] = code
			return true
		}
	}
	return false
}

// short returns the claims that are asked, one after another, when those that are not paid ask again. All their codes are taken, each by one of them.
func (p desk) short() []int {
	clear(p.asked)
	for claim, code := range p.payment {
		if code == unpaid {
			p.ask(claim)
		}
	}
	var set []int
	for claim, asked := range p.asked {
		if asked {
			set = append(set, claim)
		}
	}
	return set
}
