package model

import (
	"slices"

	"foolscap/api"
)

// Blank is a document of so many cells that no operation has put there.
func Blank(size int) []api.Cell {
	doc := make([]api.Cell, size)
	for i := range doc {
		doc[i] = api.Cell{Off: i, R: '.'}
	}
	return doc
}

// MayCell follows chapter 12's words.
func MayCell(c api.Cell) bool {
	rune := c.R >= 0 && c.R <= 0x10ffff && (c.R < 0xd800 || c.R > 0xdfff)
	return MayName(c.Name) && c.Off >= 0 && c.Off < MaxText && rune
}

// Play carries operations out upon a document, by chapter 12's words; it makes a document of its own.
func Play(doc []api.Cell, l ...api.Op) []api.Cell {
	next := slices.Clone(doc)
	for _, op := range l {
		if op.Kind == 1 {
			next = slices.Insert(next, op.At, cellsOf(op)...)
			continue
		}
		for p := range Places(op.Spans) {
			next[p].Gone = true
		}
	}
	return next
}

// cellsOf are the cells that an insertion puts in.
func cellsOf(op api.Op) []api.Cell {
	var l []api.Cell
	for i, r := range []rune(op.Text) {
		l = append(l, api.Cell{Name: op.Name, Off: i, R: r})
	}
	return l
}
