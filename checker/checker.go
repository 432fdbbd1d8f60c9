// Package checker tells whether one may read by a table, and trusts none.
package checker

import (
	"sync"

	"shift/fault"
	"shift/follow"
	"shift/reading"
)

type checker struct {
	grammar *reading.Grammar
	rules   *follow.Rules
	states  []reading.State
}

// Check tells why one may not read by a table, or nil if one may.
func Check(grammar *reading.Grammar, table *reading.Table) error {
	c := &checker{grammar: grammar, rules: follow.New(grammar), states: table.States}
	if err := c.each([]func(view) error{view.sound}); err != nil {
		return err
	}
	if err := c.start(); err != nil {
		return err
	}
	return c.each([]func(view) error{view.closed, view.joined, view.reasoned, view.decided})
}

// each asks the same of all states at the same time, and tells what is wrong with the lowest that is bad, whichever came first.
func (c *checker) each(questions []func(view) error) error {
	good, bad := make(chan int), make(chan fault.At)
	var workers sync.WaitGroup
	for number := range c.states {
		workers.Go(func() {
			if err := c.view(number).ask(questions); err != nil {
				bad <- fault.At{Place: number, Cause: err}
				return
			}
			good <- number
		})
	}
	lowest := fault.At{Place: len(c.states)}
	for range c.states {
		select {
		case <-good:
		case found := <-bad:
			if found.Place < lowest.Place {
				lowest = found
			}
		}
	}
	workers.Wait()
	if lowest.Place == len(c.states) {
		return nil
	}
	return fault.In{Kind: "table", Cause: lowest}
}

// start asks what state 0 alone must be. All states have items that can be by now.
func (c *checker) start() error {
	wrong := fault.In{Kind: "table", Cause: fault.At{Place: 0, Cause: fault.Start}}
	if !stands(c.states[0], reading.Item{Rule: reading.Star, Place: 0, Marks: reading.MarkOf(reading.End)}) {
		return wrong
	}
	for _, item := range c.states[0].Items {
		if item.Place != 0 {
			return wrong
		}
	}
	for _, state := range c.states {
		for _, edge := range state.Edges {
			if edge.To == 0 {
				return wrong
			}
		}
	}
	return nil
}
