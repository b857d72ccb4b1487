package chain

import (
	"incipit/api"
	"incipit/pager"
)

// Read answers a chain's bytes.
func Read(p *pager.Pager, c api.Chain) ([]byte, api.Errno) {
	links, e := follow(p, c)
	if e != api.OK {
		return nil, e
	}
	b := make([]byte, 0, len(links)*api.ChainRoom)
	for _, l := range links {
		b = append(b, l.bears...)
	}
	return b[:c.Bytes:c.Bytes], api.OK
}

// Pages answers a chain's pages, in order.
func Pages(p *pager.Pager, c api.Chain) ([]int, api.Errno) {
	links, e := follow(p, c)
	if e != api.OK {
		return nil, e
	}
	var pages []int
	for _, l := range links {
		pages = append(pages, l.page)
	}
	return pages, api.OK
}

// Seek answers the last of the pages' marks whose document is doc, or less: where to begin to look for doc's posting.
func Seek(p *pager.Pager, c api.Chain, doc uint32) (api.Mark, api.Errno) {
	links, e := follow(p, c)
	if e != api.OK {
		return api.Mark{}, e
	}
	var last api.Mark
	for i, l := range links {
		begin := i * api.ChainRoom
		if l.marked(c.Bytes-begin) && l.first <= doc {
			last = api.Mark{At: begin + l.off - 1, Doc: l.first}
		}
	}
	return last, api.OK
}

// follow answers a chain's pages, in order, if it may be, and they lead on.
func follow(p *pager.Pager, c api.Chain) ([]link, api.Errno) {
	pages := p.Pages()
	if pages == 0 { // no call made it
		return nil, api.ErrMade
	}
	if e := Check(c, pages); e != api.OK {
		return nil, e
	}
	var links []link
	used := headPages(p)
links:
	for page := c.Head; len(links) < c.Pages; page = links[len(links)-1].next {
		if page >= pages || used[page] {
			break links
		}
		raw, e := p.Raw(page)
		switch e {
		case api.OK:
			links = append(links, readLink(page, raw))
			used[page] = true
		case api.ErrNone: // it is free
			break links
		default:
			return nil, e
		}
	}
	if len(links) < c.Pages || c.Pages > 0 && links[Least(c.Bytes)-1].page != c.Tail {
		return nil, api.ErrChain
	}
	return links, api.OK
}

// headPages answers, for each page, whether a head or a map stands on it.
func headPages(p *pager.Pager) []bool {
	used := make([]bool, p.Pages())
	for _, page := range append(p.Maps(), 0, 1) {
		used[page] = true
	}
	return used
}
