"""Graphs put together: the functions are in graphstogether.graphs."""
