package state

import (
	"slices"

	"sediment/api"
	"sediment/policy"
	"sediment/shadow"
	"sediment/tiers"
)

// change is a change that is under way: a shadow, which in its turn is a plan. One without a shadow is none, of which nothing of the plan may be asked.
type change struct {
	*shadow.Shadow
}

// is tells whether one is under way.
func (c change) is() bool { return c.Shadow != nil }

// suits tells whether the plan fits these tiers; where none is under way all do.
func (c change) suits(t *tiers.Tiers) bool {
	if !c.is() {
		return true
	}
	_, e := c.Build(t)
	return e == api.OK
}

// mayGoOn tells whether what is to be made of these tiers goes into the bound; where none is under way nothing is.
func (c change) mayGoOn(t *tiers.Tiers) bool { return !c.is() || c.Fits(t) }

// same tells whether two are alike.
func (c change) same(o change) bool {
	if !c.is() || !o.is() {
		return c.is() == o.is()
	}
	return c.leadsAs(o) && c.Bound() == o.Bound() && c.Done() == o.Done() && c.hasAs(o)
}

// leadsAs tells whether the plans of two are alike.
func (c change) leadsAs(o change) bool {
	return policy.Same(c.To, o.To) && slices.Equal(c.Sources, o.Sources)
}

// hasAs tells whether two, whose plans are alike, have the same records.
func (c change) hasAs(o change) bool {
	for tier := range c.To.Tiers {
		if !slices.Equal(c.Records(tier), o.Records(tier)) {
			return false
		}
	}
	return true
}
